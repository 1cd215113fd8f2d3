/- Texts on the program's own functions, several in one: CrcMath, CellMath, FrMath, BnNumMath, DkMath, DkSize, DkGood, DkInv, DkTl. -/
import Derived.WalkKit

/- Plain facts on the sum of a text (CRC-32), bit by bit: no program is named here. -/
namespace Go.Proofs.YtfeconankopjmaaGreatDoor.Cr

/-- The polynomial, reflected. -/
def poly : Nat := 3988292384
/-- One bit goes out. -/
def step (r : Nat) : Nat := (r >>> 1) ^^^ (if r % 2 = 1 then poly else 0)
/-- So many bits go out. -/
def steps : Nat → Nat → Nat
  | 0, r => r
  | k + 1, r => steps k (step r)

theorem xor_mod_two (a b : Nat) : (a ^^^ b) % 2 = (a % 2 + b % 2) % 2 := by
  have h := Nat.testBit_xor (x := a) (y := b) (i := 0)
  simp only [Nat.testBit_zero] at h
  rcases Nat.mod_two_eq_zero_or_one a with ha | ha <;> rcases Nat.mod_two_eq_zero_or_one b with hb | hb <;> rcases Nat.mod_two_eq_zero_or_one (a ^^^ b) with hc | hc <;> simp [ha, hb, hc] at h ⊢

theorem xlc (a b c : Nat) : a ^^^ (b ^^^ c) = b ^^^ (a ^^^ c) := by rw [← Nat.xor_assoc, Nat.xor_comm a, Nat.xor_assoc]
theorem xrc (a b c : Nat) : a ^^^ b ^^^ c = a ^^^ c ^^^ b := by rw [Nat.xor_assoc, Nat.xor_comm b, ← Nat.xor_assoc]
theorem xx (a b : Nat) : a ^^^ (a ^^^ b) = b := by rw [← Nat.xor_assoc, Nat.xor_self, Nat.zero_xor]

theorem step_xor (a b : Nat) : step (a ^^^ b) = step a ^^^ step b := by
  unfold step
  rw [Nat.shiftRight_xor_distrib, xor_mod_two]
  rcases Nat.mod_two_eq_zero_or_one a with ha | ha <;> rcases Nat.mod_two_eq_zero_or_one b with hb | hb <;> simp [ha, hb, Nat.xor_comm, xlc, xx]

theorem step_lt {r : Nat} (h : r < 4294967296) : step r < 4294967296 := by
  unfold step
  have h1 : r >>> 1 < 2 ^ 32 := by rw [Nat.shiftRight_eq_div_pow]; omega
  have h2 : (if r % 2 = 1 then poly else 0) < 2 ^ 32 := by split <;> decide
  exact Nat.xor_lt_two_pow h1 h2

theorem steps_lt : ∀ (k : Nat) {r : Nat}, r < 4294967296 → steps k r < 4294967296
  | 0, _, h => h
  | k + 1, _, h => steps_lt k (step_lt h)

theorem steps_xor : ∀ (k a b : Nat), steps k (a ^^^ b) = steps k a ^^^ steps k b
  | 0, _, _ => rfl
  | k + 1, a, b => by rw [steps, steps, steps, step_xor, steps_xor k]

theorem steps_add : ∀ (j k r : Nat), steps (j + k) r = steps k (steps j r)
  | 0, k, r => by rw [Nat.zero_add]; rfl
  | j + 1, k, r => by rw [Nat.add_right_comm]; exact steps_add j k (step r)

theorem step_even (n : Nat) : step (2 * n) = n := by
  unfold step
  rw [if_neg (by omega), Nat.xor_zero, Nat.shiftRight_eq_div_pow]
  omega

theorem steps_zero : ∀ k, steps k 0 = 0
  | 0 => rfl
  | k + 1 => by rw [steps, show step 0 = 0 from step_even 0, steps_zero k]

theorem steps_shift : ∀ (k n : Nat), steps k (2 ^ k * n) = n
  | 0, n => by simp [steps]
  | k + 1, n => by rw [steps, Nat.pow_succ, Nat.mul_right_comm, Nat.mul_comm, step_even, steps_shift k]

theorem xor_eq_zero {a b : Nat} (h : a ^^^ b = 0) : a = b := by
  have e : a ^^^ b ^^^ b = 0 ^^^ b := by rw [h]
  rwa [Nat.xor_assoc, Nat.xor_self, Nat.xor_zero, Nat.zero_xor] at e

theorem step_none {r : Nat} (h : r < 4294967296) (h0 : step r = 0) : r = 0 := by
  unfold step at h0
  have e := xor_eq_zero h0
  rw [Nat.shiftRight_eq_div_pow] at e
  rcases Nat.mod_two_eq_zero_or_one r with hr | hr
  · rw [if_neg (by omega)] at e; omega
  · rw [if_pos hr] at e; unfold poly at e; omega

theorem steps_none : ∀ (k : Nat) {r : Nat}, r < 4294967296 → steps k r = 0 → r = 0
  | 0, _, _, h => h
  | k + 1, _, h, h0 => step_none h (steps_none k (step_lt h) h0)

theorem xor_lt {a b : Nat} (ha : a < 4294967296) (hb : b < 4294967296) : a ^^^ b < 4294967296 := Nat.xor_lt_two_pow (n := 32) ha hb

theorem steps_inj (k : Nat) {a b : Nat} (ha : a < 4294967296) (hb : b < 4294967296) (h : steps k a = steps k b) : a = b := by
  refine xor_eq_zero (steps_none k (xor_lt ha hb) ?_)
  rw [steps_xor, h, Nat.xor_self]

/-- Low bits apart: what stands above them is shifted alone. -/
theorem join_xor (k a n : Nat) (h : a < 2 ^ k) : 2 ^ k * n + a = (2 ^ k * n) ^^^ a := by
  apply Nat.eq_of_testBit_eq
  intro i
  rw [Nat.testBit_two_pow_mul_add _ h, Nat.testBit_xor, Nat.testBit_two_pow_mul]
  by_cases hi : i < k
  · simp [hi, show ¬ k ≤ i by omega]
  · have h2 : a.testBit i = false := Nat.testBit_lt_two_pow (Nat.lt_of_lt_of_le h (Nat.pow_le_pow_right (by omega) (by omega)))
    simp [hi, show k ≤ i by omega, h2]

theorem steps_low (k r : Nat) : steps k r = (r / 2 ^ k) ^^^ steps k (r % 2 ^ k) := by
  have h := join_xor k (r % 2 ^ k) (r / 2 ^ k) (Nat.mod_lt _ (Nat.two_pow_pos k))
  rw [Nat.div_add_mod] at h
  conv => lhs; rw [h]
  rw [steps_xor, steps_shift]

/-- What four bits turn. -/
def tab : List Nat := [0, 498536548, 997073096, 651767980, 1994146192, 1802195444, 1303535960, 1342533948, 3988292384, 4027552580, 3604390888, 3412177804, 2607071920, 2262029012, 2685067896, 3183342108]
theorem tab_is : ∀ n, n < 16 → tab.getD n 0 = steps 4 n := by decide
theorem tab_lt : ∀ n, n < 16 → tab.getD n 0 < 4294967296 := by decide
theorem nibble (r : Nat) : (r / 16) ^^^ tab.getD (r % 16) 0 = steps 4 r := by
  rw [tab_is _ (Nat.mod_lt _ (by omega)), steps_low 4 r]

/-- A sum, not ended yet, goes on with a byte. -/
def upd (r b : Nat) : Nat := steps 8 (r ^^^ b)
/-- A sum, not ended yet, goes on with a text. -/
def st (r : Nat) (l : List UInt8) : Nat := l.foldl (fun r b => upd r b.toNat) r
/-- The sum of a text. -/
def crc (l : List UInt8) : Nat := st 4294967295 l ^^^ 4294967295

theorem byte_lt (b : UInt8) : b.toNat < 4294967296 := by have := b.toNat_lt; omega
theorem upd_lt {r b : Nat} (hr : r < 4294967296) (hb : b < 4294967296) : upd r b < 4294967296 := steps_lt 8 (xor_lt hr hb)
theorem upd_inj {r r' b : Nat} (hr : r < 4294967296) (hr' : r' < 4294967296) (hb : b < 4294967296) (h : upd r b = upd r' b) : r = r' := by
  have h1 := steps_inj 8 (xor_lt hr hb) (xor_lt hr' hb) h
  have e : r ^^^ b ^^^ b = r' ^^^ b ^^^ b := by rw [h1]
  rwa [Nat.xor_assoc, Nat.xor_assoc, Nat.xor_self, Nat.xor_zero, Nat.xor_zero] at e

theorem st_nil (r : Nat) : st r [] = r := rfl
theorem st_cons (r : Nat) (b : UInt8) (l : List UInt8) : st r (b :: l) = st (upd r b.toNat) l := rfl
theorem st_append (r : Nat) (l m : List UInt8) : st r (l ++ m) = st (st r l) m := by simp [st, List.foldl_append]
theorem st_snoc (r : Nat) (l : List UInt8) (b : UInt8) : st r (l ++ [b]) = upd (st r l) b.toNat := by rw [st_append]; rfl
theorem st_lt : ∀ (l : List UInt8) {r : Nat}, r < 4294967296 → st r l < 4294967296
  | [], _, h => h
  | b :: l, _, h => by rw [st_cons]; exact st_lt l (upd_lt h (byte_lt b))
theorem st_inj : ∀ (l : List UInt8) {r r' : Nat}, r < 4294967296 → r' < 4294967296 → st r l = st r' l → r = r'
  | [], _, _, _, _, h => h
  | b :: l, _, _, hr, hr', h => upd_inj hr hr' (byte_lt b) (st_inj l (upd_lt hr (byte_lt b)) (upd_lt hr' (byte_lt b)) h)
theorem crc_lt (l : List UInt8) : crc l < 4294967296 := xor_lt (st_lt l (by decide)) (by decide)

/-- Bytes as one word, the lowest first. -/
def word : List UInt8 → Nat
  | [] => 0
  | b :: l => 256 * word l + b.toNat
theorem word_lt : ∀ l : List UInt8, word l < 256 ^ l.length
  | [] => by simp [word]
  | b :: l => by
    have h := word_lt l
    have hb := b.toNat_lt
    rw [word, List.length_cons, Nat.pow_succ]
    omega
theorem word_inj : ∀ (l m : List UInt8), l.length = m.length → word l = word m → l = m
  | [], [], _, _ => rfl
  | [], _ :: _, h, _ => by simp at h
  | _ :: _, [], h, _ => by simp at h
  | b :: l, c :: m, h, e => by
    have hb := b.toNat_lt
    have hc := c.toNat_lt
    rw [word, word] at e
    have h1 : word l = word m := by omega
    have h2 : b = c := UInt8.toNat.inj (by omega)
    rw [h2, word_inj l m (by simpa using h) h1]

/-- A byte at a time is a word at once. -/
theorem st_word : ∀ (l : List UInt8) (r : Nat), st r l = steps (8 * l.length) (r ^^^ word l)
  | [], r => by simp [st, steps, word]
  | b :: l, r => by
    have e : word (b :: l) = (2 ^ 8 * word l) ^^^ b.toNat := join_xor 8 _ _ b.toNat_lt
    have e2 : steps 8 (r ^^^ word (b :: l)) = upd r b.toNat ^^^ word l := by
      rw [e, ← Nat.xor_assoc, xrc, steps_xor, steps_shift]; rfl
    rw [st_cons, st_word l, List.length_cons, Nat.mul_add, Nat.mul_one, Nat.add_comm, steps_add, e2]

theorem word_small {l : List UInt8} (h : l.length ≤ 4) : word l < 4294967296 :=
  Nat.lt_of_lt_of_le (word_lt l) (Nat.le_trans (Nat.pow_le_pow_right (by omega) h) (by decide))

/-- At most four bytes side by side are told by the state behind them. -/
theorem st_few {l m : List UInt8} {r : Nat} (hr : r < 4294967296) (hl : l.length ≤ 4) (hlm : l.length = m.length) (h : st r l = st r m) : l = m := by
  rw [st_word, st_word, hlm] at h
  have h1 := steps_inj _ (xor_lt hr (word_small hl)) (xor_lt hr (word_small (by omega))) h
  refine word_inj l m hlm ?_
  have e : r ^^^ (r ^^^ word l) = r ^^^ (r ^^^ word m) := by rw [h1]
  rwa [← Nat.xor_assoc, ← Nat.xor_assoc, Nat.xor_self, Nat.zero_xor, Nat.zero_xor] at e

/-- Two texts that part in at most four bytes side by side have unlike states. -/
theorem st_burst {p l m q : List UInt8} {r : Nat} (hr : r < 4294967296) (hl : l.length ≤ 4) (hlm : l.length = m.length) (h : st r (p ++ l ++ q) = st r (p ++ m ++ q)) : l = m := by
  rw [st_append, st_append r (p ++ m), st_append r p, st_append r p] at h
  have hp := st_lt p hr
  exact st_few hp hl hlm (st_inj q (st_lt l hp) (st_lt m hp) h)

theorem xor_inj {a b c : Nat} (h : a ^^^ c = b ^^^ c) : a = b := by
  have e : a ^^^ c ^^^ c = b ^^^ c ^^^ c := by rw [h]
  rwa [Nat.xor_assoc, Nat.xor_assoc, Nat.xor_self, Nat.xor_zero, Nat.xor_zero] at e
theorem crc_burst {p l m q : List UInt8} (hl : l.length ≤ 4) (hlm : l.length = m.length) (h : crc (p ++ l ++ q) = crc (p ++ m ++ q)) : l = m :=
  st_burst (by decide) hl hlm (xor_inj h)

/-- A number's four bytes, the lowest first. -/
def le4 (n : Nat) : List UInt8 := [UInt8.ofNat n, UInt8.ofNat (n / 256), UInt8.ofNat (n / 65536), UInt8.ofNat (n / 16777216)]
theorem le4_length (n : Nat) : (le4 n).length = 4 := rfl
theorem word_le4 {n : Nat} (h : n < 4294967296) : word (le4 n) = n := by
  simp only [le4, word, UInt8.toNat_ofNat', Nat.reducePow]
  omega

/-- A text with its sum behind it comes to one and the same state. -/
theorem st_whole (l : List UInt8) : st 4294967295 (l ++ le4 (crc l)) = steps 32 4294967295 := by
  rw [st_append, st_word, le4_length, word_le4 (crc_lt l), crc, ← Nat.xor_assoc, Nat.xor_self, Nat.zero_xor]

/-- Two texts, each with its sum behind it, that part in at most four bytes side by side are one. -/
theorem whole_burst {a b p l m q : List UInt8} (hl : l.length ≤ 4) (hlm : l.length = m.length) (ha : a ++ le4 (crc a) = p ++ l ++ q) (hb : b ++ le4 (crc b) = p ++ m ++ q) : l = m := by
  refine st_burst (r := 4294967295) (by decide) hl hlm (p := p) (q := q) ?_
  rw [← ha, ← hb, st_whole, st_whole]

/-- The document's way: a bit of the byte at a time. -/
def feed (r b : Nat) : Nat := if (r ^^^ b) % 2 = 1 then (r / 2) ^^^ poly else r / 2
def feeds (r b : Nat) : Nat → Nat
  | 0 => r
  | k + 1 => feed (feeds r b k) (b / 2 ^ k)
theorem feed_is (r b : Nat) : feed r b = step (r ^^^ b) ^^^ (b / 2) := by
  unfold feed step
  rw [Nat.shiftRight_xor_distrib, Nat.shiftRight_eq_div_pow, Nat.shiftRight_eq_div_pow]
  simp only [Nat.pow_one]
  rw [xrc, Nat.xor_assoc (r / 2), Nat.xor_self, Nat.xor_zero]
  split
  · rfl
  · rw [Nat.xor_zero]
theorem steps_snoc (k r : Nat) : steps (k + 1) r = step (steps k r) := by rw [steps_add k 1]; rfl
theorem feeds_is (r b : Nat) : ∀ k, feeds r b k = steps k (r ^^^ b) ^^^ (b / 2 ^ k)
  | 0 => by simp [feeds, steps, Nat.xor_assoc]
  | k + 1 => by
    rw [feeds, feed_is, feeds_is r b k, Nat.xor_assoc, Nat.xor_self, Nat.xor_zero, steps_snoc, Nat.div_div_eq_div_mul, Nat.pow_succ]
theorem feeds_byte (r : Nat) (b : UInt8) : feeds r b.toNat 8 = upd r b.toNat := by
  have h : b.toNat / 2 ^ 8 = 0 := by have := b.toNat_lt; omega
  rw [feeds_is, h, Nat.xor_zero, upd]
theorem feeds_lt (r : Nat) (b : UInt8) (hr : r < 4294967296) (k : Nat) : feeds r b.toNat k < 4294967296 := by
  rw [feeds_is]
  exact xor_lt (steps_lt k (xor_lt hr (byte_lt b))) (Nat.lt_of_le_of_lt (Nat.div_le_self _ _) (byte_lt b))

end Go.Proofs.YtfeconankopjmaaGreatDoor.Cr

/- Plain facts on cells: no program is named here. -/
namespace Go.Proofs.YtfeconankopjmaaGreatDoor.Cr

/-- A cell. -/
structure Cl where
  first : Bool
  last : Bool
  num : Int
  data : ByteArray

theorem Cl.eq {a b : Cl} (h1 : a.first = b.first) (h2 : a.last = b.last) (h3 : a.num = b.num) (h4 : a.data = b.data) : a = b := by
  cases a; cases b; simp_all

/-- May a cell be? -/
def may (c : Cl) : Bool := decide (0 ≤ c.num ∧ c.num ≤ 65535 ∧ (c.first = true ↔ c.num = 0) ∧ c.data.size ≤ 24 ∧ (c.last = true ∨ c.data.size = 24) ∧ (c.data.size ≠ 0 ∨ c.first = true))
/-- A cell's first byte. -/
def mark (c : Cl) : Nat := 64 + (if c.first then 1 else 0) + (if c.last then 2 else 0)
/-- A cell's bytes but for its sum. -/
def head (c : Cl) : List UInt8 := [UInt8.ofNat (mark c), UInt8.ofNat c.data.size, UInt8.ofNat c.num.toNat, UInt8.ofNat (c.num.toNat / 256)] ++ (c.data.data.toList ++ List.replicate (24 - c.data.size) 0)
/-- A cell's bytes. -/
def mk (c : Cl) : List UInt8 := head c ++ le4 (crc (head c))

theorem size_list (s : ByteArray) : s.data.toList.length = s.size := by rw [Array.length_toList]; rfl
theorem head_length {c : Cl} (h : c.data.size ≤ 24) : (head c).length = 28 := by
  simp only [head, List.length_append, List.length_cons, List.length_nil, size_list, List.length_replicate]
  omega
theorem mk_length {c : Cl} (h : c.data.size ≤ 24) : (mk c).length = 32 := by
  rw [mk, List.length_append, head_length h]; rfl

theorem may_size {c : Cl} (h : may c = true) : c.data.size ≤ 24 := by
  unfold may at h; simp only [decide_eq_true_eq] at h; exact h.2.2.2.1
theorem may_num {c : Cl} (h : may c = true) : 0 ≤ c.num ∧ c.num ≤ 65535 := by
  unfold may at h; simp only [decide_eq_true_eq] at h; exact ⟨h.1, h.2.1⟩

/-- What 32 bytes say, be they a cell's or not. -/
def dec (l : List UInt8) : Cl :=
  { first := (l.getD 0 0).toNat % 2 = 1, last := (l.getD 0 0).toNat / 2 % 2 = 1, num := (l.getD 2 0).toNat + 256 * (l.getD 3 0).toNat, data := ⟨((l.drop 4).take (l.getD 1 0).toNat).toArray⟩ }
/-- The cell whose bytes these are. -/
def rd (l : List UInt8) : Option Cl :=
  if l.length = 32 ∧ (l.getD 1 0).toNat ≤ 24 ∧ may (dec l) = true ∧ mk (dec l) = l then some (dec l) else none

theorem mark_lt (c : Cl) : mark c < 68 := by unfold mark; split <;> split <;> omega
theorem mark_ge (c : Cl) : 64 ≤ mark c := by unfold mark; omega
theorem toNat_ofNat (n : Nat) : (UInt8.ofNat n).toNat = n % 256 := UInt8.toNat_ofNat' ..

theorem mk_at (c : Cl) : (mk c).getD 0 0 = UInt8.ofNat (mark c) ∧ (mk c).getD 1 0 = UInt8.ofNat c.data.size ∧ (mk c).getD 2 0 = UInt8.ofNat c.num.toNat ∧ (mk c).getD 3 0 = UInt8.ofNat (c.num.toNat / 256) ∧
    (mk c).drop 4 = (c.data.data.toList ++ List.replicate (24 - c.data.size) 0) ++ le4 (crc (head c)) := by
  refine ⟨rfl, rfl, rfl, rfl, rfl⟩

theorem dec_mk {c : Cl} (h : may c = true) : dec (mk c) = c := by
  obtain ⟨h0, h1, h2, h3, h4⟩ := mk_at c
  have hs := may_size h
  obtain ⟨n0, n1⟩ := may_num h
  have hm := mark_lt c
  have e0 : (UInt8.ofNat (mark c)).toNat = mark c := by rw [toNat_ofNat]; omega
  have e1 : (UInt8.ofNat c.data.size).toNat = c.data.size := by rw [toNat_ofNat]; omega
  unfold dec
  rw [h0, h1, h2, h3, h4, e0, e1, toNat_ofNat, toNat_ofNat]
  refine Cl.eq ?_ ?_ ?_ ?_
  · show decide (mark c % 2 = 1) = c.first
    unfold mark
    cases c.first <;> cases c.last <;> rfl
  · show decide (mark c / 2 % 2 = 1) = c.last
    unfold mark
    cases c.first <;> cases c.last <;> rfl
  · show ((c.num.toNat % 256 : Nat) : Int) + 256 * ((c.num.toNat / 256 % 256 : Nat) : Int) = c.num
    omega
  · show ByteArray.mk _ = c.data
    rw [List.append_assoc, List.take_left' (size_list _)]

theorem rd_mk {c : Cl} (h : may c = true) : rd (mk c) = some c := by
  have hs := may_size h
  have e1 : ((mk c).getD 1 0).toNat ≤ 24 := by rw [(mk_at c).2.1, toNat_ofNat]; omega
  unfold rd
  rw [if_pos ⟨mk_length hs, e1, by rw [dec_mk h]; exact h, by rw [dec_mk h]⟩, dec_mk h]
theorem rd_some {l : List UInt8} {c : Cl} (h : rd l = some c) : may c = true ∧ mk c = l ∧ l.length = 32 := by
  unfold rd at h
  split at h
  · rename_i hc
    obtain rfl := Option.some.inj h
    exact ⟨hc.2.2.1, hc.2.2.2, hc.1⟩
  · cases h
theorem rd_none {l : List UInt8} (h : l.length ≠ 32) : rd l = none := by
  unfold rd; rw [if_neg (fun hc => h hc.1)]

/-- A text of which four bytes, from a place on, are turned by a mask's. -/
def turn (l : List UInt8) (at_ mask : Nat) : Nat → List UInt8
  | 0 => l
  | k + 1 => (turn l at_ mask k).set (at_ + k) ((turn l at_ mask k).getD (at_ + k) 0 ^^^ UInt8.ofNat (mask / 256 ^ k))

theorem turn_parts (l : List UInt8) (at_ mask : Nat) (ha : at_ ≤ l.length) : ∀ k, ∃ m, turn l at_ mask k = l.take at_ ++ m ++ (l.drop at_).drop k ∧ m.length = ((l.drop at_).take k).length
  | 0 => ⟨[], by simp [turn], by simp⟩
  | k + 1 => by
    obtain ⟨m, e, hm⟩ := turn_parts l at_ mask ha k
    rw [turn, e]
    generalize hq : l.drop at_ = q at *
    have ht : (l.take at_).length = at_ := by rw [List.length_take]; omega
    rcases Nat.lt_or_ge k q.length with hk | hk
    · have hd := List.drop_eq_getElem_cons hk
      have hm' : m.length = k := by rw [hm, List.length_take]; omega
      refine ⟨m ++ [q[k] ^^^ UInt8.ofNat (mask / 256 ^ k)], ?_, ?_⟩
      · rw [hd]
        have e2 : (l.take at_ ++ m ++ q[k] :: q.drop (k + 1))[at_ + k]? = some q[k] := by
          rw [List.getElem?_append_right (by rw [List.length_append]; omega), List.length_append, ht, hm', Nat.sub_self]; rfl
        rw [List.getD_eq_getElem?_getD, e2, Option.getD_some]
        rw [List.set_append_right _ _ (by rw [List.length_append]; omega), List.length_append, ht, hm', Nat.sub_self, List.set_cons_zero, List.append_assoc, List.append_assoc, List.append_assoc]
        rfl
      · rw [List.length_append, hm', List.length_take, List.length_singleton]; omega
    · refine ⟨m, ?_, ?_⟩
      · rw [List.drop_of_length_le hk, List.drop_of_length_le (by omega), List.append_nil]
        apply List.set_eq_of_length_le
        rw [List.length_append, ht, hm, List.length_take]; omega
      · rw [hm, List.length_take, List.length_take]; omega

theorem turn_length (l : List UInt8) (at_ mask : Nat) : ∀ k, (turn l at_ mask k).length = l.length
  | 0 => rfl
  | k + 1 => by rw [turn, List.length_set, turn_length l at_ mask k]

theorem parts_of (l : List UInt8) (at_ k : Nat) : l = l.take at_ ++ (l.drop at_).take k ++ (l.drop at_).drop k := by
  rw [List.append_assoc, List.take_append_drop, List.take_append_drop]

theorem crc_turn (l : List UInt8) (at_ mask : Nat) (ha : at_ ≤ l.length) : crc l = crc (turn l at_ mask 4) ↔ l = turn l at_ mask 4 := by
  refine ⟨fun h => ?_, fun h => by rw [← h]⟩
  obtain ⟨m, e, hm⟩ := turn_parts l at_ mask ha 4
  have hp := parts_of l at_ 4
  rw [e] at h ⊢
  conv at h => lhs; rw [hp]
  have := crc_burst (by rw [List.length_take]; omega) hm.symm h
  conv => lhs; rw [hp]
  rw [this]

theorem rd_turn {c : Cl} (h : may c = true) (at_ mask : Nat) (ha : at_ ≤ 32) : (rd (turn (mk c) at_ mask 4)).isSome = true ↔ mk c = turn (mk c) at_ mask 4 := by
  have hl := mk_length (may_size h)
  refine ⟨fun hr => ?_, fun e => by rw [← e, rd_mk h]; rfl⟩
  obtain ⟨c', hc'⟩ := Option.isSome_iff_exists.1 hr
  obtain ⟨m, e, hm⟩ := turn_parts (mk c) at_ mask (by omega) 4
  obtain ⟨_, h2, _⟩ := rd_some hc'
  have hp := parts_of (mk c) at_ 4
  have := whole_burst (a := head c) (b := head c') (by rw [List.length_take]; omega) hm.symm hp (h2.trans e)
  rw [e, ← this]
  exact hp

end Go.Proofs.YtfeconankopjmaaGreatDoor.Cr

/- Plain facts on frames: no program is named here. -/
namespace Go.Proofs.YtfeconankopjmaaGreatDoor.Cr

/-- How many cells a record has. -/
def cells (r : ByteArray) : Nat := max 1 ((r.size + 23) / 24)
/-- A record's cell of a number. -/
def cl (r : ByteArray) (n : Nat) : Cl := ⟨decide (n = 0), decide (n + 1 = cells r), n, r.extract (24 * n) (min (24 * n + 24) r.size)⟩
/-- The bytes of a record's first cells. -/
def frm (r : ByteArray) : Nat → List UInt8
  | 0 => []
  | n + 1 => frm r n ++ mk (cl r n)
/-- The bytes of so many of a record's cells, from one on. -/
def frs (r : ByteArray) : Nat → Nat → List UInt8
  | _, 0 => []
  | n, j + 1 => mk (cl r n) ++ frs r (n + 1) j
/-- A record's frame. -/
def frame (r : ByteArray) : List UInt8 := frm r (cells r)
/-- Frames, one behind the other. -/
def frames (rs : List ByteArray) : List UInt8 := rs.flatMap frame

theorem extract_list (s : ByteArray) (a b : Nat) : (s.extract a b).data.toList = (s.data.toList.drop a).take (b - a) := by
  rw [ByteArray.data_extract, Array.toList_extract, List.extract_eq_take_drop]
theorem size_extract' (s : ByteArray) (a b : Nat) : (s.extract a b).size = min b s.size - a := ByteArray.size_extract

theorem cells_pos (r : ByteArray) : 1 ≤ cells r := by unfold cells; omega
theorem cl_size (r : ByteArray) (n : Nat) : (cl r n).data.size = min (24 * n + 24) r.size - 24 * n := by
  show (r.extract _ _).size = _
  rw [size_extract']; omega
theorem cl_le (r : ByteArray) (n : Nat) : (cl r n).data.size ≤ 24 := by rw [cl_size]; omega
theorem cl_may {r : ByteArray} {n : Nat} (hn : n < cells r) (hr : r.size ≤ 524288) : may (cl r n) = true := by
  have hs := cl_size r n
  have h1 := cl_le r n
  unfold may
  rw [decide_eq_true_eq]
  have e1 : (cl r n).num = (n : Int) := rfl
  have e2 : (cl r n).first = decide (n = 0) := rfl
  have e3 : (cl r n).last = decide (n + 1 = cells r) := rfl
  rw [e1, e2, e3, decide_eq_true_eq, decide_eq_true_eq, hs]
  unfold cells at *
  refine ⟨by omega, by omega, by omega, by omega, by omega, by omega⟩
theorem mk_cl_length (r : ByteArray) (n : Nat) : (mk (cl r n)).length = 32 := mk_length (cl_le r n)
theorem frm_length (r : ByteArray) : ∀ n, (frm r n).length = 32 * n
  | 0 => rfl
  | n + 1 => by rw [frm, List.length_append, frm_length r n, mk_cl_length]; omega
theorem frs_length (r : ByteArray) : ∀ j n, (frs r n j).length = 32 * j
  | 0, _ => rfl
  | j + 1, n => by rw [frs, List.length_append, frs_length r j, mk_cl_length]; omega
theorem frame_length (r : ByteArray) : (frame r).length = 32 * cells r := frm_length r _
theorem frs_snoc (r : ByteArray) : ∀ j n, frs r n (j + 1) = frs r n j ++ mk (cl r (n + j))
  | 0, n => by simp [frs]
  | j + 1, n => by
    rw [frs, frs_snoc r j (n + 1), frs, List.append_assoc]
    have : n + 1 + j = n + (j + 1) := by omega
    rw [this]
theorem frm_frs (r : ByteArray) : ∀ n, frm r n = frs r 0 n
  | 0 => rfl
  | n + 1 => by rw [frm, frm_frs r n, frs_snoc, Nat.zero_add]
theorem frs_split (r : ByteArray) : ∀ i n j, frs r n (i + j) = frs r n i ++ frs r (n + i) j
  | 0, n, j => by simp [frs]
  | i + 1, n, j => by
    rw [show i + 1 + j = (i + j) + 1 by omega, frs, frs_split r i (n + 1) j, frs, List.append_assoc, show n + 1 + i = n + (i + 1) by omega]
theorem frames_nil : frames [] = [] := rfl
theorem frames_cons (r : ByteArray) (rs : List ByteArray) : frames (r :: rs) = frame r ++ frames rs := List.flatMap_cons
theorem frames_append (a b : List ByteArray) : frames (a ++ b) = frames a ++ frames b := List.flatMap_append
theorem frames_one (r : ByteArray) : frames [r] = frame r := by rw [frames_cons, frames_nil, List.append_nil]

/-- The record that the cells from one on say, behind what those ahead of it said, and which cell is the next one. -/
def scan (l : List UInt8) (n : Nat) (d : List UInt8) : Option (ByteArray × Nat) :=
  if l.length < 32 then none else
  match rd (l.take 32) with
  | none => none
  | some c => if c.num ≠ n ∨ 524288 < d.length + c.data.size then none else if c.last = true then some (⟨(d ++ c.data.data.toList).toArray⟩, n + 1) else scan (l.drop 32) (n + 1) (d ++ c.data.data.toList)
termination_by l.length
decreasing_by rw [List.length_drop]; omega

theorem scan_short {l : List UInt8} (h : l.length < 32) (n : Nat) (d : List UInt8) : scan l n d = none := by rw [scan, if_pos h]
theorem scan_none {l : List UInt8} (h : rd (l.take 32) = none) (n : Nat) (d : List UInt8) : scan l n d = none := by
  by_cases hl : l.length < 32
  · exact scan_short hl n d
  · rw [scan, if_neg hl, h]
theorem scan_bad {l : List UInt8} {c : Cl} {n : Nat} {d : List UInt8} (h : rd (l.take 32) = some c) (hb : c.num ≠ n ∨ 524288 < d.length + c.data.size) : scan l n d = none := by
  by_cases hl : l.length < 32
  · exact scan_short hl n d
  · rw [scan, if_neg hl, h]; dsimp only; rw [if_pos hb]
theorem scan_last {l : List UInt8} {c : Cl} {n : Nat} {d : List UInt8} (hl : 32 ≤ l.length) (h : rd (l.take 32) = some c) (h1 : c.num = n) (h2 : d.length + c.data.size ≤ 524288) (h3 : c.last = true) :
    scan l n d = some (⟨(d ++ c.data.data.toList).toArray⟩, n + 1) := by
  rw [scan, if_neg (by omega), h]; dsimp only; rw [if_neg (by omega), if_pos h3]
theorem scan_more {l : List UInt8} {c : Cl} {n : Nat} {d : List UInt8} (hl : 32 ≤ l.length) (h : rd (l.take 32) = some c) (h1 : c.num = n) (h2 : d.length + c.data.size ≤ 524288) (h3 : c.last = false) :
    scan l n d = scan (l.drop 32) (n + 1) (d ++ c.data.data.toList) := by
  rw [scan, if_neg (by omega), h]; dsimp only; rw [if_neg (by omega), if_neg (by rw [h3]; decide)]

theorem take_cl {r : ByteArray} {n : Nat} (h : 24 * n ≤ r.size) : r.data.toList.take (24 * n) ++ (cl r n).data.data.toList = r.data.toList.take (24 * (n + 1)) := by
  show _ ++ (r.extract _ _).data.toList = _
  rw [extract_list]
  have hl := size_list r
  have e : r.data.toList.take (24 * (n + 1)) = r.data.toList.take (24 * n + (min (24 * n + 24) r.size - 24 * n)) := by
    by_cases hc : 24 * (n + 1) ≤ r.size
    · congr 1; omega
    · rw [List.take_of_length_le (by omega), List.take_of_length_le (by omega)]
  rw [e, List.take_add]
theorem of_toList (r : ByteArray) : (⟨r.data.toList.toArray⟩ : ByteArray) = r := by cases r; simp

theorem cell_at {r : ByteArray} {n : Nat} (hn : n < cells r) : 24 * n ≤ r.size := by unfold cells at hn; omega

/-- A record's cell is read on. -/
theorem scan_cell {r : ByteArray} {n : Nat} (t : List UInt8) (hn : n < cells r) (hr : r.size ≤ 524288) :
    scan (mk (cl r n) ++ t) n (r.data.toList.take (24 * n)) = if n + 1 = cells r then some (r, n + 1) else scan t (n + 1) (r.data.toList.take (24 * (n + 1))) := by
  have hl := mk_cl_length r n
  have ht : (mk (cl r n) ++ t).take 32 = mk (cl r n) := List.take_left' hl
  have hd : (mk (cl r n) ++ t).drop 32 = t := List.drop_left' hl
  have hrd := rd_mk (cl_may hn hr)
  have hat := cell_at hn
  have hsz : (r.data.toList.take (24 * n)).length + (cl r n).data.size ≤ 524288 := by
    rw [cl_size, List.length_take, size_list]; omega
  rw [← ht] at hrd
  have hlen : 32 ≤ (mk (cl r n) ++ t).length := by rw [List.length_append]; omega
  by_cases hlast : n + 1 = cells r
  · rw [if_pos hlast, scan_last hlen hrd rfl hsz (decide_eq_true hlast), take_cl hat, List.take_of_length_le (by rw [size_list]; unfold cells at hlast; omega), of_toList]
  · rw [if_neg hlast, scan_more hlen hrd rfl hsz (decide_eq_false hlast), take_cl hat, hd]

/-- What stands behind some of a record's cells, but not all of them, decides. -/
theorem scan_to {r : ByteArray} (hr : r.size ≤ 524288) (t : List UInt8) : ∀ j n, n + j < cells r → scan (frs r n j ++ t) n (r.data.toList.take (24 * n)) = scan t (n + j) (r.data.toList.take (24 * (n + j)))
  | 0, n, _ => by simp [frs]
  | j + 1, n, h => by
    rw [frs, List.append_assoc, scan_cell _ (by omega) hr, if_neg (by omega), scan_to hr t j (n + 1) (by omega), show n + 1 + j = n + (j + 1) by omega]

/-- The record that a text begins with, and how many cells that has. -/
def frl (l : List UInt8) : Option (ByteArray × Nat) := scan l 0 []

theorem frl_to {r : ByteArray} (hr : r.size ≤ 524288) (t : List UInt8) {j : Nat} (h : j < cells r) : frl (frm r j ++ t) = scan t j (r.data.toList.take (24 * j)) := by
  have := scan_to hr t j 0 (by omega)
  rw [Nat.zero_add, Nat.mul_zero, List.take_zero] at this
  rw [frm_frs]; exact this
theorem frl_frame {r : ByteArray} (hr : r.size ≤ 524288) (t : List UInt8) : frl (frame r ++ t) = some (r, cells r) := by
  have h1 := cells_pos r
  obtain ⟨k, hk⟩ : ∃ k, cells r = k + 1 := ⟨cells r - 1, by omega⟩
  unfold frame
  rw [hk, frm, List.append_assoc, frl_to hr _ (by omega), scan_cell _ (by omega) hr, if_pos hk.symm]
/-- A text that is, from one of a record's cells on, none's. -/
theorem frl_stuck {r : ByteArray} (hr : r.size ≤ 524288) {t : List UInt8} {j : Nat} (h : j < cells r) (ht : t.length < 32 ∨ rd (t.take 32) = none) : frl (frm r j ++ t) = none := by
  rw [frl_to hr t h]
  rcases ht with ht | ht
  · exact scan_short ht _ _
  · exact scan_none ht _ _
theorem frl_short {l : List UInt8} (h : l.length < 32) : frl l = none := scan_short h _ _

theorem may_parts {c : Cl} (h : may c = true) : 0 ≤ c.num ∧ c.num ≤ 65535 ∧ (c.first = true ↔ c.num = 0) ∧ c.data.size ≤ 24 ∧ (c.last = true ∨ c.data.size = 24) ∧ (c.data.size ≠ 0 ∨ c.first = true) := by
  unfold may at h; rwa [decide_eq_true_eq] at h

/-- What was read are a record's cells. -/
theorem scan_some : ∀ (m : Nat) (l : List UInt8) (n : Nat) (d : List UInt8) (r : ByteArray) (k : Nat), l.length ≤ m → d.length = 24 * n → scan l n d = some (r, k) →
    n < k ∧ k = cells r ∧ r.size ≤ 524288 ∧ 32 * (k - n) ≤ l.length ∧ l.take (32 * (k - n)) = frs r n (k - n) ∧ r.data.toList.take (24 * n) = d := by
  intro m
  induction m with
  | zero => intro l n d r k hm hd h; rw [scan_short (by omega)] at h; cases h
  | succ m ih =>
    intro l n d r k hm hd h
    by_cases hl : l.length < 32
    · rw [scan_short hl] at h; cases h
    · have hl' : 32 ≤ l.length := by omega
      cases hc : rd (l.take 32) with
      | none => rw [scan_none hc] at h; cases h
      | some c =>
        by_cases hb : c.num ≠ n ∨ 524288 < d.length + c.data.size
        · rw [scan_bad hc hb] at h; cases h
        · obtain ⟨hmay, hmk, _⟩ := rd_some hc
          obtain ⟨m1, m2, m3, m4, m5, m6⟩ := may_parts hmay
          have hcn : c.num = n := by omega
          have hsz : d.length + c.data.size ≤ 524288 := by omega
          have hln : c.data.data.toList.length = c.data.size := size_list _
          by_cases hlast : c.last = true
          · rw [scan_last hl' hc hcn hsz hlast] at h
            simp only [Option.some.injEq, Prod.mk.injEq] at h
            obtain ⟨hr, rfl⟩ := h
            have hrl : r.data.toList = d ++ c.data.data.toList := by rw [← hr]
            have hrs : r.size = 24 * n + c.data.size := by rw [← size_list, hrl, List.length_append]; omega
            have hfirst : c.first = true ↔ n = 0 := by rw [m3]; omega
            have hcells : cells r = n + 1 := by
              unfold cells
              rw [hrs]
              rcases m6 with h | h
              · omega
              · have := hfirst.1 h; omega
            have hcl : cl r n = c := by
              refine Cl.eq ?_ ?_ hcn.symm ?_
              · show decide (n = 0) = c.first
                rw [Bool.eq_iff_iff, decide_eq_true_eq]; exact hfirst.symm
              · show decide (n + 1 = cells r) = c.last
                rw [hlast, decide_eq_true_eq]; exact hcells.symm
              · show r.extract _ _ = c.data
                apply ByteArray.ext; apply Array.toList_inj.1
                rw [extract_list, hrl, List.drop_left' hd, List.take_of_length_le (by omega)]
            refine ⟨by omega, hcells.symm, by omega, ?_, ?_, ?_⟩
            · rw [show n + 1 - n = 1 by omega]; omega
            · rw [show n + 1 - n = 1 by omega, frs, frs, hcl, List.append_nil, hmk]
            · rw [hrl, List.take_left' hd]
          · have hlf : c.last = false := by simpa using hlast
            have h24 : c.data.size = 24 := by rcases m5 with h | h; exact absurd h hlast; exact h
            rw [scan_more hl' hc hcn hsz hlf] at h
            have hdl : (d ++ c.data.data.toList).length = 24 * (n + 1) := by rw [List.length_append]; omega
            obtain ⟨i1, i2, i3, i4, i5, i6⟩ := ih _ _ _ r k (by rw [List.length_drop]; omega) hdl h
            rw [List.length_drop] at i4
            have hrs : 24 * (n + 1) ≤ r.size := by
              have := congrArg List.length i6
              rw [hdl, List.length_take, size_list] at this
              omega
            have hrd : r.data.toList.take (24 * n) = d := by
              have := congrArg (List.take (24 * n)) i6
              rw [List.take_take, Nat.min_eq_left (by omega), List.take_left' hd] at this
              exact this
            have hfirst : c.first = true ↔ n = 0 := by rw [m3]; omega
            have hcl : cl r n = c := by
              refine Cl.eq ?_ ?_ hcn.symm ?_
              · show decide (n = 0) = c.first
                rw [Bool.eq_iff_iff, decide_eq_true_eq]; exact hfirst.symm
              · show decide (n + 1 = cells r) = c.last
                rw [hlf, decide_eq_false_iff_not]; omega
              · show r.extract _ _ = c.data
                apply ByteArray.ext; apply Array.toList_inj.1
                rw [extract_list, show min (24 * n + 24) r.size - 24 * n = 24 by omega]
                have := congrArg (List.drop (24 * n)) i6
                rw [List.drop_left' hd, List.drop_take, show 24 * (n + 1) - 24 * n = 24 by omega] at this
                exact this
            refine ⟨by omega, i2, i3, by omega, ?_, hrd⟩
            obtain ⟨q, hq⟩ : ∃ q, k - n = q + 1 := ⟨k - n - 1, by omega⟩
            have hq' : k - (n + 1) = q := by omega
            rw [hq'] at i5
            rw [hq, frs, hcl, ← i5, hmk, show 32 * (q + 1) = 32 + 32 * q by omega, List.take_add]

theorem frl_some {l : List UInt8} {r : ByteArray} {k : Nat} (h : frl l = some (r, k)) : k = cells r ∧ r.size ≤ 524288 ∧ 32 * k ≤ l.length ∧ l.take (32 * k) = frame r := by
  obtain ⟨_, h2, h3, h4, h5, _⟩ := scan_some l.length l 0 [] r k (Nat.le_refl _) rfl h
  rw [Nat.sub_zero] at h4 h5
  refine ⟨h2, h3, h4, ?_⟩
  rw [h5, frame, frm_frs, h2]
theorem frl_pos {l : List UInt8} {r : ByteArray} {k : Nat} (h : frl l = some (r, k)) : 1 ≤ k := by
  rw [(frl_some h).1]; exact cells_pos r

/-- The records that are whole, and how many bytes they have. -/
def rda (l : List UInt8) : List ByteArray × Nat :=
  match h : frl l with
  | none => ([], 0)
  | some (r, k) => (r :: (rda (l.drop (32 * k))).1, 32 * k + (rda (l.drop (32 * k))).2)
termination_by l.length
decreasing_by all_goals (have h1 := frl_pos h; have h2 := (frl_some h).2.2.1; rw [List.length_drop]; omega)

theorem rda_none {l : List UInt8} (h : frl l = none) : rda l = ([], 0) := by
  rw [rda]; split
  · rfl
  · rename_i h2; rw [h] at h2; cases h2
theorem rda_some {l : List UInt8} {r : ByteArray} {k : Nat} (h : frl l = some (r, k)) : rda l = (r :: (rda (l.drop (32 * k))).1, 32 * k + (rda (l.drop (32 * k))).2) := by
  rw [rda]; split
  · rename_i h2; rw [h] at h2; cases h2
  · rename_i r' k' h2
    rw [h] at h2
    simp only [Option.some.injEq, Prod.mk.injEq] at h2
    obtain ⟨rfl, rfl⟩ := h2
    rfl

theorem rda_frames (t : List UInt8) : ∀ rs : List ByteArray, (∀ r ∈ rs, r.size ≤ 524288) → rda (frames rs ++ t) = (rs ++ (rda t).1, (frames rs).length + (rda t).2)
  | [], _ => by rw [frames_nil]; simp
  | r :: rs, h => by
    have hr := h r (List.mem_cons_self ..)
    rw [frames_cons, List.append_assoc, rda_some (frl_frame hr _), ← frame_length, List.drop_left, rda_frames t rs (fun x hx => h x (List.mem_cons_of_mem _ hx)), List.length_append]
    simp [Nat.add_assoc]

theorem rda_spec : ∀ (m : Nat) (l : List UInt8) (rs : List ByteArray) (w : Nat), l.length ≤ m → rda l = (rs, w) →
    frames rs = l.take w ∧ w ≤ l.length ∧ w % 32 = 0 ∧ frl (l.drop w) = none ∧ (∀ r ∈ rs, r.size ≤ 524288) ∧ 32 * rs.length ≤ w := by
  intro m
  induction m with
  | zero =>
    intro l rs w hm h
    have hf := frl_short (l := l) (by omega)
    rw [rda_none hf] at h
    simp only [Prod.mk.injEq] at h
    obtain ⟨rfl, rfl⟩ := h
    exact ⟨rfl, by omega, rfl, by simpa using hf, by simp, by simp⟩
  | succ m ih =>
    intro l rs w hm h
    cases hf : frl l with
    | none =>
      rw [rda_none hf] at h
      simp only [Prod.mk.injEq] at h
      obtain ⟨rfl, rfl⟩ := h
      exact ⟨rfl, by omega, rfl, by simpa using hf, by simp, by simp⟩
    | some p =>
      obtain ⟨r, k⟩ := p
      obtain ⟨h1, h2, h3, h4⟩ := frl_some hf
      have hk := frl_pos hf
      rw [rda_some hf] at h
      simp only [Prod.mk.injEq] at h
      obtain ⟨i1, i2, i3, i4, i5, i6⟩ := ih (l.drop (32 * k)) _ _ (by rw [List.length_drop]; omega) rfl
      obtain ⟨rfl, rfl⟩ := h
      rw [List.length_drop] at i2
      refine ⟨?_, by omega, by omega, by rw [List.drop_drop] at i4; exact i4, ?_, by rw [List.length_cons]; omega⟩
      · rw [frames_cons, i1, ← h4, List.take_add]
      · intro x hx
        rcases List.mem_cons.1 hx with rfl | hx
        · exact h2
        · exact i5 x hx

/-- A frame that is cut is none. -/
theorem frl_cut {r : ByteArray} (hr : r.size ≤ 524288) {m : Nat} (h : m < (frame r).length) : frl ((frame r).take m) = none := by
  rw [frame_length] at h
  have hj : m / 32 < cells r := by omega
  have e : frame r = frm r (m / 32) ++ frs r (m / 32) (cells r - m / 32) := by
    unfold frame
    conv => lhs; rw [show cells r = m / 32 + (cells r - m / 32) by omega, frm_frs, frs_split, Nat.zero_add, ← frm_frs]
  rw [e, List.take_append, List.take_of_length_le (by rw [frm_length]; omega)]
  exact frl_stuck hr hj (Or.inl (by rw [List.length_take, frm_length]; omega))

/-- Without its last byte a text has one record less. -/
theorem rda_less {l : List UInt8} {rs : List ByteArray} {w : Nat} (h : rda l = (rs, w)) (hw : 0 < w) : (rda (l.take (w - 1))).1.length + 1 = rs.length := by
  obtain ⟨h1, h2, _, _, h5, _⟩ := rda_spec l.length l rs w (Nat.le_refl _) h
  rcases List.eq_nil_or_concat rs with rfl | ⟨init, last, rfl⟩
  · have := congrArg List.length h1
    rw [frames_nil, List.length_take] at this
    simp only [List.length_nil] at this
    omega
  · rw [List.concat_eq_append] at *
    rw [frames_append, frames_one] at h1
    have hlen := congrArg List.length h1
    rw [List.length_append, List.length_take, Nat.min_eq_left h2] at hlen
    have hp : 1 ≤ (frame last).length := by rw [frame_length]; have := cells_pos last; omega
    have e : l.take (w - 1) = frames init ++ (frame last).take ((frame last).length - 1) := by
      have e1 : l.take (w - 1) = (l.take w).take (w - 1) := by rw [List.take_take, Nat.min_eq_left (by omega)]
      rw [e1, ← h1, List.take_append, List.take_of_length_le (by omega)]
      congr 2; omega
    rw [e, rda_frames _ init (fun x hx => h5 x (List.mem_append_left _ hx)), rda_none (frl_cut (h5 last (by simp)) (by omega)), List.length_append, List.length_append]
    rfl

theorem turn_at (l : List UInt8) (at_ mask : Nat) : ∀ k i, (i < at_ ∨ at_ + k ≤ i) → (turn l at_ mask k)[i]? = l[i]?
  | 0, _, _ => rfl
  | k + 1, i, h => by rw [turn, List.getElem?_set_ne (by omega), turn_at l at_ mask k i (by omega)]

theorem burst_ext {x y : List UInt8} (hl : x.length = y.length) (lo : Nat) (h : ∀ i, (i < lo ∨ lo + 4 ≤ i) → x[i]? = y[i]?) :
    ∃ a m n b : List UInt8, x = a ++ m ++ b ∧ y = a ++ n ++ b ∧ m.length ≤ 4 ∧ m.length = n.length := by
  refine ⟨x.take lo, (x.drop lo).take 4, (y.drop lo).take 4, (x.drop lo).drop 4, parts_of x lo 4, ?_, by rw [List.length_take]; omega, by rw [List.length_take, List.length_take, List.length_drop, List.length_drop, hl]⟩
  have e1 : x.take lo = y.take lo := by
    apply List.ext_getElem?
    intro i
    rw [List.getElem?_take, List.getElem?_take]
    split
    · exact h i (Or.inl (by assumption))
    · rfl
  have e2 : (x.drop lo).drop 4 = (y.drop lo).drop 4 := by
    apply List.ext_getElem?
    intro i
    rw [List.drop_drop, List.drop_drop, List.getElem?_drop, List.getElem?_drop]
    exact h _ (Or.inr (by omega))
  rw [e1, e2]
  exact parts_of y lo 4

/-- Of frames that are cut and turned the records are read whose frames lie whole ahead. -/
theorem rda_tail {rs : List ByteArray} (hs : ∀ r ∈ rs, r.size ≤ 524288) {t u : List UInt8} {at_ harm n : Nat} (ht : t = (frames rs).take t.length) (hu : u.length = t.length)
    (hout : ∀ i, (i < at_ ∨ at_ + 4 ≤ i) → u[i]? = t[i]?) (hbefore : ∀ i, i < harm → u[i]? = t[i]?) (hharm : harm ≤ t.length) (hat : harm < t.length → u[harm]? ≠ t[harm]?)
    (hn : n ≤ rs.length) (hlo : (frames (rs.take n)).length ≤ harm) (hhi : n < rs.length → harm < (frames (rs.take (n + 1))).length) :
    rda u = (rs.take n, (frames (rs.take n)).length) := by
  generalize hwant : (frames (rs.take n)).length = want at *
  have hsplit : frames rs = frames (rs.take n) ++ frames (rs.drop n) := by rw [← frames_append, List.take_append_drop]
  have htw : ∀ i, i < t.length → t[i]? = (frames rs)[i]? := by
    intro i hi
    conv => lhs; rw [ht]
    rw [List.getElem?_take, if_pos hi]
  have huw : u.take want = frames (rs.take n) := by
    apply List.ext_getElem?
    intro i
    rw [List.getElem?_take]
    split
    · rename_i hi
      rw [hbefore i (by omega), htw i (by omega), hsplit, List.getElem?_append_left (by omega)]
    · rw [List.getElem?_eq_none (by omega)]
  have hue : u = frames (rs.take n) ++ u.drop want := by rw [← huw, List.take_append_drop]
  have hnone : frl (u.drop want) = none := by
    by_cases hlast : n = rs.length
    · apply frl_short
      subst hlast
      rw [List.take_length] at hwant
      have := congrArg List.length ht
      rw [List.length_take] at this
      rw [List.length_drop]; omega
    · have hlt : n < rs.length := by omega
      have hhi := hhi hlt
      have hr : (rs[n]).size ≤ 524288 := hs _ (List.getElem_mem hlt)
      rw [List.take_succ_eq_append_getElem hlt, frames_append, List.length_append, hwant, frames_one, frame_length] at hhi
      have hdrop : rs.drop n = rs[n] :: rs.drop (n + 1) := List.drop_eq_getElem_cons hlt
      rw [hdrop, frames_cons] at hsplit
      generalize hR : rs[n] = r at *
      obtain ⟨j, hj⟩ : ∃ j, j = (harm - want) / 32 := ⟨_, rfl⟩
      have hjc : j < cells r := by omega
      have hsplit2 : frame r = frm r j ++ (mk (cl r j) ++ frs r (j + 1) (cells r - (j + 1))) := by
        have : cells r = j + ((cells r - (j + 1)) + 1) := by omega
        unfold frame
        conv => lhs; rw [this, frm_frs, frs_split, Nat.zero_add, ← frm_frs, frs]
      have hF : ∀ i, i < 32 → (frames rs)[want + 32 * j + i]? = (mk (cl r j))[i]? := by
        intro i hi
        have hml := mk_cl_length r j
        have hfl := frm_length r j
        rw [hsplit, List.getElem?_append_right (by omega), hwant, hsplit2, List.append_assoc, List.getElem?_append_right (by omega), hfl, List.append_assoc, List.getElem?_append_left (by omega)]
        congr 1; omega
      have hP : u.drop want = frm r j ++ u.drop (want + 32 * j) := by
        have hfl := frm_length r j
        have e : (u.drop want).take (32 * j) = frm r j := by
          apply List.ext_getElem?
          intro i
          rw [List.getElem?_take]
          split
          · rename_i hi
            rw [List.getElem?_drop, hbefore _ (by omega), htw _ (by omega), hsplit, List.getElem?_append_right (by omega), hwant, hsplit2, List.append_assoc, List.getElem?_append_left (by omega)]
            congr 1; omega
          · rw [List.getElem?_eq_none (by omega)]
        rw [← e, ← List.drop_drop, List.take_append_drop]
      rw [hP]
      apply frl_stuck hr hjc
      by_cases hq : (u.drop (want + 32 * j)).length < 32
      · exact Or.inl hq
      · right
        rw [List.length_drop] at hq
        cases hc : rd ((u.drop (want + 32 * j)).take 32) with
        | none => rfl
        | some c =>
          exfalso
          obtain ⟨_, h2, _⟩ := rd_some hc
          have hyl : ((u.drop (want + 32 * j)).take 32).length = 32 := by rw [List.length_take, List.length_drop]; omega
          have hxi : ∀ i, i < 32 → (mk (cl r j))[i]? = t[want + 32 * j + i]? := fun i hi => by rw [htw _ (by omega), hF i hi]
          have hyi : ∀ i, i < 32 → ((u.drop (want + 32 * j)).take 32)[i]? = u[want + 32 * j + i]? := fun i hi => by rw [List.getElem?_take, if_pos hi, List.getElem?_drop]
          obtain ⟨a, m, m', b, e1, e2, hm, hm'⟩ := burst_ext (x := mk (cl r j)) (y := (u.drop (want + 32 * j)).take 32) (by rw [hyl, mk_cl_length]) (at_ - (want + 32 * j)) (by
            intro i hi
            by_cases hi32 : i < 32
            · rw [hxi i hi32, hyi i hi32, hout _ (by omega)]
            · rw [List.getElem?_eq_none (by rw [mk_cl_length]; omega), List.getElem?_eq_none (by omega)])
          have hmm := whole_burst (a := head (cl r j)) (b := head c) hm hm' e1 (h2.trans e2)
          rw [hmm, ← e2] at e1
          have hk : harm - (want + 32 * j) < 32 := by omega
          have h3 := hxi _ hk
          rw [e1, hyi _ hk, show want + 32 * j + (harm - (want + 32 * j)) = harm by omega] at h3
          exact hat (by omega) h3
  have hsn : ∀ r ∈ rs.take n, r.size ≤ 524288 := fun r hr => hs r (List.mem_of_mem_take hr)
  rw [hue, rda_frames _ _ hsn, rda_none hnone, hwant, List.append_nil]
  rfl

end Go.Proofs.YtfeconankopjmaaGreatDoor.Cr

/- Plain facts on numbers as bytes: no program is named here. -/
namespace Go.Proofs.YtfeconankopjmaaGreatDoor.Bn.Nm
set_option maxRecDepth 100000

/-- The number that bytes are, the greatest first. -/
def val (l : List UInt8) : Nat := l.foldl (fun a b => 256 * a + b.toNat) 0
/-- The last w bytes of a number, the greatest first. -/
def big : Nat → Nat → List UInt8
  | _, 0 => []
  | n, w + 1 => big (n / 256) w ++ [UInt8.ofNat n]
/-- How many bytes a number below 2^64 needs. -/
def wid (n : Nat) : Nat :=
  if n < 1 then 0 else if n < 256 then 1 else if n < 65536 then 2 else if n < 16777216 then 3 else if n < 4294967296 then 4
  else if n < 1099511627776 then 5 else if n < 281474976710656 then 6 else if n < 72057594037927936 then 7 else 8
/-- A number's row. -/
def row (n : Nat) : List UInt8 := if n < 248 then [UInt8.ofNat n] else UInt8.ofNat (247 + wid n) :: big n (wid n)
/-- The number whose row a text begins with, and that row's length. -/
def rv : List UInt8 → Option (Nat × Nat)
  | [] => none
  | b :: r => if b.toNat < 248 then some (b.toNat, 1)
    else if r.length < b.toNat - 247 then none
    else if val (r.take (b.toNat - 247)) < 248 ∨ wid (val (r.take (b.toNat - 247))) ≠ b.toNat - 247 then none
    else some (val (r.take (b.toNat - 247)), 1 + (b.toNat - 247))

theorem val_nil : val [] = 0 := rfl
theorem val_snoc (l : List UInt8) (b : UInt8) : val (l ++ [b]) = 256 * val l + b.toNat := by simp [val, List.foldl_append]
theorem val_acc : ∀ (l : List UInt8) (a : Nat), l.foldl (fun a b => 256 * a + b.toNat) a = a * 256 ^ l.length + val l
  | [], a => by simp [val]
  | b :: l, a => by
    have h1 := val_acc l (256 * a + b.toNat)
    have h2 := val_acc l (256 * 0 + b.toNat)
    rw [List.foldl_cons, h1]
    show _ = a * 256 ^ (l.length + 1) + l.foldl _ (256 * 0 + b.toNat)
    rw [h2, Nat.pow_succ]
    have e1 : (256 * a + b.toNat) * 256 ^ l.length = 256 * a * 256 ^ l.length + b.toNat * 256 ^ l.length := Nat.add_mul ..
    have e2 : a * (256 ^ l.length * 256) = 256 * a * 256 ^ l.length := by rw [Nat.mul_comm (256 ^ l.length), ← Nat.mul_assoc, Nat.mul_comm a]
    rw [e1, e2, Nat.mul_zero, Nat.zero_add]
    omega
theorem val_cons (b : UInt8) (l : List UInt8) : val (b :: l) = b.toNat * 256 ^ l.length + val l := by
  have := val_acc l (256 * 0 + b.toNat)
  show l.foldl _ (256 * 0 + b.toNat) = _
  rw [this]; simp
theorem val_lt : ∀ l : List UInt8, val l < 256 ^ l.length
  | [] => by simp [val]
  | b :: l => by
    rw [val_cons, List.length_cons, Nat.pow_succ]
    have h := val_lt l
    have hb : b.toNat + 1 ≤ 256 := by have := b.toNat_lt; omega
    have : (b.toNat + 1) * 256 ^ l.length ≤ 256 * 256 ^ l.length := Nat.mul_le_mul_right _ hb
    rw [Nat.add_mul] at this
    rw [Nat.mul_comm (256 ^ l.length)]
    omega
theorem big_length : ∀ (w n : Nat), (big n w).length = w
  | 0, _ => rfl
  | w + 1, n => by simp [big, big_length w]
theorem toNat_ofNat (n : Nat) : (UInt8.ofNat n).toNat = n % 256 := UInt8.toNat_ofNat' ..
theorem val_big : ∀ (w n : Nat), val (big n w) = n % 256 ^ w
  | 0, n => by simp [big, val, Nat.mod_one]
  | w + 1, n => by
    rw [big, val_snoc, val_big w, toNat_ofNat, Nat.pow_succ, Nat.mul_comm (256 ^ w), Nat.mod_mul]
    omega
theorem big_val : ∀ (k : Nat) (l : List UInt8), l.length = k → big (val l) k = l
  | 0, l, h => by rw [List.eq_nil_of_length_eq_zero h]; rfl
  | k + 1, l, h => by
    have hne : l ≠ [] := by intro e; rw [e] at h; simp at h
    have hl := List.dropLast_concat_getLast hne
    have hd : l.dropLast.length = k := by simp [h]
    rw [← hl, val_snoc, big]
    have hb := (l.getLast hne).toNat_lt
    have e1 : (256 * val l.dropLast + (l.getLast hne).toNat) / 256 = val l.dropLast := by omega
    rw [e1, big_val k _ hd]
    congr 1
    congr 1
    apply UInt8.toNat.inj
    rw [toNat_ofNat]
    omega
theorem big_inj {w a b : Nat} (ha : a < 256 ^ w) (hb : b < 256 ^ w) (h : big a w = big b w) : a = b := by
  have := congrArg val h
  rw [val_big, val_big, Nat.mod_eq_of_lt ha, Nat.mod_eq_of_lt hb] at this
  exact this

theorem wid_le8 (n : Nat) : wid n ≤ 8 := by
  unfold wid
  (repeat' split) <;> omega
theorem wid_le {n w : Nat} (hn : n < 18446744073709551616) (hw : w ≤ 8) : wid n ≤ w ↔ n < 256 ^ w := by
  have : w = 0 ∨ w = 1 ∨ w = 2 ∨ w = 3 ∨ w = 4 ∨ w = 5 ∨ w = 6 ∨ w = 7 ∨ w = 8 := by omega
  rcases this with rfl | rfl | rfl | rfl | rfl | rfl | rfl | rfl | rfl <;> unfold wid <;> simp only [Nat.reducePow] <;> (repeat' split) <;> omega
theorem lt_wid {n : Nat} (hn : n < 18446744073709551616) : n < 256 ^ wid n := (wid_le hn (wid_le8 n)).1 (Nat.le_refl _)
theorem wid_pos {n : Nat} (h : 0 < n) : 0 < wid n := by
  unfold wid
  (repeat' split) <;> omega
theorem wid_mono {a b : Nat} (hb : b < 18446744073709551616) (h : a ≤ b) : wid a ≤ wid b :=
  (wid_le (by omega) (wid_le8 b)).2 (Nat.lt_of_le_of_lt h (lt_wid hb))

theorem row_short {n : Nat} (h : n < 248) : row n = [UInt8.ofNat n] := by unfold row; rw [if_pos h]
theorem row_long {n : Nat} (h : ¬ n < 248) : row n = UInt8.ofNat (247 + wid n) :: big n (wid n) := by unfold row; rw [if_neg h]
theorem row_length (n : Nat) : 1 ≤ (row n).length ∧ (row n).length ≤ 9 := by
  by_cases h : n < 248
  · rw [row_short h]; simp
  · have := wid_le8 n
    rw [row_long h]; simp only [List.length_cons, big_length]; omega
theorem byte_wid (n : Nat) : (UInt8.ofNat (247 + wid n)).toNat = 247 + wid n := by
  have := wid_le8 n
  rw [toNat_ofNat]; omega

/-- A row, read again, whatever stands behind it. -/
theorem rv_row {n : Nat} (hn : n < 18446744073709551616) (t : List UInt8) : rv (row n ++ t) = some (n, (row n).length) := by
  by_cases h : n < 248
  · rw [row_short h]
    have e : (UInt8.ofNat n).toNat = n := by rw [toNat_ofNat]; omega
    simp [rv, e, h]
  · have hw := wid_pos (n := n) (by omega)
    have hb : (UInt8.ofNat (247 + wid n)).toNat - 247 = wid n := by rw [byte_wid]; omega
    have hc : ¬ (UInt8.ofNat (247 + wid n)).toNat < 248 := by rw [byte_wid]; omega
    have ht : (big n (wid n) ++ t).take (wid n) = big n (wid n) := List.take_left' (big_length _ _)
    have hv : val (big n (wid n)) = n := by rw [val_big, Nat.mod_eq_of_lt (lt_wid hn)]
    rw [row_long h, List.cons_append, rv, if_neg hc, hb, ht, hv, if_neg (by simp [big_length]), if_neg (by omega)]
    simp [big_length]; omega

/-- What is read is what its row is. -/
theorem row_rv {l : List UInt8} {n k : Nat} (h : rv l = some (n, k)) : 1 ≤ k ∧ k ≤ l.length ∧ row n = l.take k ∧ n < 18446744073709551616 := by
  cases l with
  | nil => cases h
  | cons b r =>
    rw [rv] at h
    split at h
    · rename_i hb
      simp only [Option.some.injEq, Prod.mk.injEq] at h
      obtain ⟨rfl, rfl⟩ := h
      have e : UInt8.ofNat b.toNat = b := by simp
      rw [row_short hb, e]
      simp
      omega
    · rename_i hb
      split at h
      · cases h
      · rename_i hl
        split at h
        · cases h
        · rename_i hc
          simp only [Option.some.injEq, Prod.mk.injEq] at h
          obtain ⟨rfl, rfl⟩ := h
          have hb2 := b.toNat_lt
          have hlen : (r.take (b.toNat - 247)).length = b.toNat - 247 := by rw [List.length_take]; omega
          have hlt := val_lt (r.take (b.toNat - 247))
          rw [hlen] at hlt
          have h8 : 256 ^ (b.toNat - 247) ≤ 256 ^ 8 := Nat.pow_le_pow_right (by omega) (by omega)
          have hcw : wid (val (r.take (b.toNat - 247))) = b.toNat - 247 := by
            rcases Nat.lt_or_ge (val (r.take (b.toNat - 247))) 248 with hx | hx
            · exact absurd (Or.inl hx) hc
            · exact Classical.byContradiction fun hne => hc (Or.inr hne)
          have hge : ¬ val (r.take (b.toNat - 247)) < 248 := fun hx => hc (Or.inl hx)
          refine ⟨by omega, by simp; omega, ?_, by have : (256 : Nat) ^ 8 = 18446744073709551616 := by decide
                                                   omega⟩
          rw [row_long hge, hcw, big_val _ _ hlen]
          have e : UInt8.ofNat (247 + (b.toNat - 247)) = b := by
            have : 247 + (b.toNat - 247) = b.toNat := by omega
            rw [this]; simp
          rw [e, Nat.add_comm 1, List.take_succ_cons]

/-- Where two texts part: the lesser byte is the first one's. -/
def Parts (x y : List UInt8) : Prop := ∃ p c d u v, x = p ++ c :: u ∧ y = p ++ d :: v ∧ c.toNat < d.toNat

theorem parts_cons {x y : List UInt8} (b : UInt8) (h : Parts x y) : Parts (b :: x) (b :: y) := by
  obtain ⟨p, c, d, u, v, rfl, rfl, h⟩ := h
  exact ⟨b :: p, c, d, u, v, rfl, rfl, h⟩

theorem parts_of_val : ∀ (x y : List UInt8), x.length = y.length → val x < val y → Parts x y
  | [], [], _, h => by simp [val] at h
  | [], _ :: _, h, _ => by simp at h
  | _ :: _, [], h, _ => by simp at h
  | b :: x, c :: y, hl, h => by
    have hl' : x.length = y.length := by simpa using hl
    rw [val_cons, val_cons, hl'] at h
    have hx := val_lt x
    have hy := val_lt y
    rw [hl'] at hx
    rcases Nat.lt_trichotomy b.toNat c.toNat with hb | hb | hb
    · exact ⟨[], b, c, x, y, rfl, rfl, hb⟩
    · obtain rfl : b = c := UInt8.toNat.inj hb
      exact parts_cons b (parts_of_val x y hl' (by omega))
    · exfalso
      have : (c.toNat + 1) * 256 ^ y.length ≤ b.toNat * 256 ^ y.length := Nat.mul_le_mul_right _ hb
      rw [Nat.add_mul] at this
      omega

theorem bytesLess_parts {x y : List UInt8} (h : Parts x y) (s t : List UInt8) : Op.bytesLess (x ++ s) (y ++ t) = true ∧ Op.bytesLess (y ++ t) (x ++ s) = false := by
  obtain ⟨p, c, d, u, v, rfl, rfl, h⟩ := h
  have hc : c < d := UInt8.lt_iff_toNat_lt.2 h
  have hd : ¬ d < c := fun x => by have := UInt8.lt_iff_toNat_lt.1 x; omega
  have he : (d == c) = false := by simp; intro e; rw [e] at h; omega
  induction p with
  | nil => simp [Op.bytesLess, hc, hd, he]
  | cons b p ih =>
    have hb : ¬ b < b := fun x => by have := UInt8.lt_iff_toNat_lt.1 x; omega
    simp only [List.cons_append, Op.bytesLess, hb, decide_false, beq_self_eq_true, Bool.true_and, Bool.false_or]
    exact ih

theorem bytesLess_self : ∀ x : List UInt8, Op.bytesLess x x = false
  | [] => rfl
  | b :: x => by
    have hb : ¬ b < b := fun x => by have := UInt8.lt_iff_toNat_lt.1 x; omega
    simp [Op.bytesLess, hb, bytesLess_self x]

/-- Texts of one length stand as their numbers do. -/
theorem bytesLess_val {x y : List UInt8} (h : x.length = y.length) : Op.bytesLess x y = decide (val x < val y) := by
  rcases Nat.lt_trichotomy (val x) (val y) with hv | hv | hv
  · have := (bytesLess_parts (parts_of_val x y h hv) [] []).1
    simp only [List.append_nil] at this
    rw [this]; simp [hv]
  · have e : x = y := by rw [← big_val _ x rfl, ← big_val _ y rfl, h, hv]
    rw [e, bytesLess_self]; simp
  · have := (bytesLess_parts (parts_of_val y x h.symm hv) [] []).2
    simp only [List.append_nil] at this
    rw [this]; simp; omega

/-- Rows part where numbers do. -/
theorem parts_row {a b : Nat} (ha : a < b) (hb : b < 18446744073709551616) : Parts (row a) (row b) := by
  by_cases h1 : b < 248
  · rw [row_short h1, row_short (by omega)]
    refine ⟨[], _, _, [], [], rfl, rfl, ?_⟩
    rw [toNat_ofNat, toNat_ofNat]; omega
  · rw [row_long h1]
    have hw := wid_pos (n := b) (by omega)
    have hw8 := wid_le8 b
    by_cases h2 : a < 248
    · rw [row_short h2]
      refine ⟨[], _, _, [], _, rfl, rfl, ?_⟩
      rw [toNat_ofNat, toNat_ofNat]; omega
    · rw [row_long h2]
      have hm := wid_mono hb (Nat.le_of_lt ha)
      by_cases h3 : wid a = wid b
      · rw [h3]
        refine parts_cons _ (parts_of_val _ _ (by rw [big_length, big_length]) ?_)
        have hlb := lt_wid hb
        rw [val_big, val_big, Nat.mod_eq_of_lt hlb, Nat.mod_eq_of_lt (by omega)]
        exact ha
      · refine ⟨[], _, _, _, _, rfl, rfl, ?_⟩
        rw [byte_wid, byte_wid]; omega

end Go.Proofs.YtfeconankopjmaaGreatDoor.Bn.Nm

/- A disk as plain data: files by numbers, directories as rising lists of names; what each call makes of it. No function is named. -/
namespace Go.Proofs.YtfeconankopjmaaGreatDoor.Dk
open Go

abbrev Str := List UInt8
/-- A directory: names, rising, each with a file's number. -/
abbrev Dir := List (Str × Nat)
def ins (x : Str × Nat) : Dir → Dir
  | [] => [x]
  | y :: r => if bytesBefore x.1 y.1 then x :: y :: r else y :: ins x r
def del (s : Str) (d : Dir) : Dir := d.filter fun p => !(p.1 == s)
def put (s : Str) (i : Nat) (d : Dir) : Dir := ins (s, i) (del s d)
def look (s : Str) (d : Dir) : Option Nat := match d.find? (fun p => p.1 == s) with
  | some p => some p.2
  | none => none

/-- A file: its bytes, and how many of them last. -/
structure File where
  data : Str
  lasts : Nat
/-- A change: made: the file of a Create. -/
structure Chg where
  src : Str
  dst : Str
  made : Option Nat
def Chg.file (c : Chg) (d : Dir) : Option Nat := if c.src = [] then c.made else look c.src d
def Chg.run (c : Chg) (d : Dir) : Dir :=
  let d1 := if c.src = [] then d else del c.src d
  if c.dst = [] then d1 else match c.file d with
    | some i => put c.dst i d1
    | none => d1
def runs : List Chg → Dir → Dir
  | [], d => d
  | c :: r, d => runs r (c.run d)
/-- A change that can be made: it names a file. -/
def Chg.Can (c : Chg) (d : Dir) : Prop := (c.dst ≠ [] → ∃ i, c.file d = some i) ∧ (c.src = [] → c.dst ≠ [])
def Cans : List Chg → Dir → Prop
  | [], _ => True
  | c :: r, d => c.Can d ∧ Cans r (c.run d)

structure Disk where
  room : Int
  used : Int
  fuse : Nat
  down : Bool
  now : Dir
  lasting : Dir
  changes : List Chg
  file : Nat → File
  next : Nat

def upd (F : Nat → File) (i : Nat) (f : File) : Nat → File := fun j => if j = i then f else F j
theorem upd_same (F : Nat → File) (i : Nat) (f : File) : upd F i f i = f := by simp [upd]
theorem upd_other {F : Nat → File} {i j : Nat} (h : j ≠ i) (f : File) : upd F i f j = F j := by simp [upd, h]

def okByte (c : UInt8) : Bool := (97 ≤ c && c ≤ 122) || (48 ≤ c && c ≤ 57) || c == 46 || c == 45
def isName (s : Str) : Bool := decide (s ≠ []) && decide (s.length ≤ 24) && s.all okByte

/-- An operation that nothing else bars: whether the power goes at it. -/
def Disk.burnt (S : Disk) : Bool := S.fuse == 1
def Disk.burn (S : Disk) : Disk := if S.fuse = 0 then S else { S with fuse := S.fuse - 1, down := S.fuse == 1 }
def sizeOf (S : Disk) (lost : Option Nat) : Nat := match lost with
  | some i => (S.file i).data.length
  | none => 0
def Disk.did (S : Disk) (c : Chg) (lost : Option Nat) : Disk := { S with now := c.run S.now, changes := S.changes ++ [c], used := S.used - sizeOf S lost }
def Disk.change (S : Disk) (c : Chg) (lost : Option Nat) : Int × Disk := if S.burnt then (7, S.burn) else (0, S.burn.did c lost)
def Disk.with (S : Disk) : Disk := { S with file := upd S.file S.next ⟨[], 0⟩, next := S.next + 1 }
def Disk.create (S : Disk) (s : Str) : Int × Disk :=
  if S.down then (7, S) else if !isName s then (1, S) else if (look s S.now).isSome then (5, S) else
  if S.burnt then (7, S.burn) else (0, S.burn.with.did ⟨[], s, some S.next⟩ none)
def Disk.setFile (S : Disk) (i : Nat) (f : File) : Disk := { S with file := upd S.file i f }
def Disk.append (S : Disk) (s data : Str) : Int × Disk :=
  if S.down then (7, S) else match look s S.now with
  | none => (4, S)
  | some i => if (data.length : Int) > S.room - S.used then (6, S) else if S.burnt then (7, S.burn) else
    (0, { S.burn.setFile i ⟨(S.file i).data ++ data, (S.file i).lasts⟩ with used := S.used + data.length })
def Disk.sync (S : Disk) (s : Str) : Int × Disk :=
  if S.down then (7, S) else match look s S.now with
  | none => (4, S)
  | some i => if S.burnt then (7, S.burn) else (0, S.burn.setFile i ⟨(S.file i).data, (S.file i).data.length⟩)
def Disk.rename (S : Disk) (s t : Str) : Int × Disk :=
  if S.down then (7, S) else if !isName t then (1, S) else match look s S.now with
  | none => (4, S)
  | some _ => if s = t then (if S.burnt then (7, S.burn) else (0, S.burn)) else S.change ⟨s, t, none⟩ (look t S.now)
def Disk.delete (S : Disk) (s : Str) : Int × Disk :=
  if S.down then (7, S) else match look s S.now with
  | none => (4, S)
  | some i => S.change ⟨s, [], none⟩ (some i)
def Disk.keep (S : Disk) (n : Nat) : Disk := { S with lasting := runs (S.changes.take n) S.lasting, changes := [] }
def Disk.dirSync (S : Disk) : Int × Disk :=
  if S.down then (7, S) else if S.burnt then (7, S.burn) else (0, S.burn.keep S.changes.length)
def Disk.read (S : Disk) (s : Str) : Str × Int :=
  if S.down then ([], 7) else match look s S.now with
  | none => ([], 4)
  | some i => ((S.file i).data, 0)

/-- What is held between 0 and a most. -/
def held (n most : Int) : Int := min (max n 0) most
/-- The byte of a mask that turns the j-th of four. -/
def maskAt (m : Nat) (j : Nat) : UInt8 := UInt8.ofNat (m >>> (8 * j))
/-- Four bytes side by side, or as many as there are, turned. -/
def turn (t : Str) (pos : Int) (m : Nat) : Str :=
  let a := (pos % (t.length : Int)).toNat
  t.mapIdx fun j x => if a ≤ j ∧ j < a + 4 then x ^^^ maskAt m (j - a) else x
/-- What a crash leaves of a file that has a tail, by its k-th choices. -/
def left (f : File) (ks : List Int) (sp : List (Int × Nat)) (k : Nat) : File :=
  let n := match ks[k]? with
    | some x => (held x ((f.data.length : Int) - f.lasts)).toNat
    | none => 0
  let t := (f.data.drop f.lasts).take n
  let u := if n = 0 then t else match sp[k]? with
    | some q => turn t q.1 q.2
    | none => t
  ⟨f.data.take f.lasts ++ u, f.lasts + n⟩
def tails (ks : List Int) (sp : List (Int × Nat)) : Dir → Nat → (Nat → File) → (Nat → File)
  | [], _, F => F
  | p :: r, k, F => if (F p.2).lasts = (F p.2).data.length then tails ks sp r k F else tails ks sp r (k + 1) (upd F p.2 (left (F p.2) ks sp k))
def total (F : Nat → File) : Dir → Nat
  | [] => 0
  | p :: r => (F p.2).data.length + total F r
structure Crash where
  names : Int
  keep : List Int
  spoil : List (Int × Nat)
def Disk.crash (S : Disk) (c : Crash) : Disk :=
  let n := (held c.names S.changes.length).toNat
  let L := runs (S.changes.take n) S.lasting
  let F := tails c.keep c.spoil L 0 S.file
  { S with down := true, lasting := L, changes := [], now := L, file := F, used := total F L }
def Disk.light (S : Disk) (n : Int) : Disk := { S with fuse := n.toNat }
def Disk.start (S : Disk) : Disk := { S with down := false }
def fresh (room : Int) : Disk := ⟨held room 1048576, 0, 0, false, [], [], [], fun _ => ⟨[], 0⟩, 0⟩

/-! ### directories -/
theorem mem_ins {x y : Str × Nat} : ∀ {d : Dir}, y ∈ ins x d ↔ y = x ∨ y ∈ d
  | [] => by simp [ins]
  | z :: r => by
    unfold ins
    split
    · simp
    · rw [List.mem_cons, mem_ins (d := r), List.mem_cons]
      constructor
      · rintro (h | h | h) <;> simp [h]
      · rintro (h | h | h) <;> simp [h]
theorem mem_del {s : Str} {d : Dir} {y : Str × Nat} : y ∈ del s d ↔ y ∈ d ∧ y.1 ≠ s := by
  unfold del
  rw [List.mem_filter]
  simp
theorem mem_put {s : Str} {i : Nat} {d : Dir} {y : Str × Nat} : y ∈ put s i d ↔ y = (s, i) ∨ (y ∈ d ∧ y.1 ≠ s) := by
  unfold put
  rw [mem_ins, mem_del]
theorem mem_of_look {s : Str} {d : Dir} {i : Nat} (h : look s d = some i) : (s, i) ∈ d := by
  unfold look at h
  cases hf : d.find? (fun p => p.1 == s) with
  | none => rw [hf] at h; simp at h
  | some p =>
    rw [hf] at h
    simp only [Option.some.injEq] at h
    have h1 := List.find?_some hf
    have h2 := List.mem_of_find?_eq_some hf
    obtain ⟨a, b⟩ := p
    simp only [beq_iff_eq] at h1 h
    subst h1 h
    exact h2
theorem mem_run {c : Chg} {d : Dir} {y : Str × Nat} (h : y ∈ c.run d) : y ∈ d ∨ c.file d = some y.2 := by
  unfold Chg.run at h
  simp only at h
  have hd1 : ∀ z, z ∈ (if c.src = [] then d else del c.src d) → z ∈ d := fun z hz => by
    split at hz
    · exact hz
    · exact (mem_del.1 hz).1
  split at h
  · exact Or.inl (hd1 _ h)
  · split at h
    · rename_i i hi
      rcases mem_put.1 h with rfl | h
      · exact Or.inr hi
      · exact Or.inl (hd1 _ h.1)
    · exact Or.inl (hd1 _ h)
/-- The numbers of files that a directory has come of it, or of a file made. -/
theorem id_run {c : Chg} {d : Dir} {y : Str × Nat} (h : y ∈ c.run d) : (∃ z ∈ d, z.2 = y.2) ∨ c.made = some y.2 := by
  rcases mem_run h with h | h
  · exact Or.inl ⟨y, h, rfl⟩
  · unfold Chg.file at h
    split at h
    · exact Or.inr h
    · exact Or.inl ⟨_, mem_of_look h, rfl⟩
theorem runs_append (a b : List Chg) (d : Dir) : runs (a ++ b) d = runs b (runs a d) := by
  induction a generalizing d with
  | nil => rfl
  | cons c r ih => exact ih _
theorem cans_append {a b : List Chg} {d : Dir} : Cans (a ++ b) d ↔ Cans a d ∧ Cans b (runs a d) := by
  induction a generalizing d with
  | nil => simp [Cans, runs]
  | cons c r ih =>
    simp only [List.cons_append, Cans, runs, ih, and_assoc]

end Go.Proofs.YtfeconankopjmaaGreatDoor.Dk

/- How great directories and files become. No function is named. -/
namespace Go.Proofs.YtfeconankopjmaaGreatDoor.Dk
open Go

theorem length_ins (x : Str × Nat) : ∀ d : Dir, (ins x d).length = d.length + 1
  | [] => rfl
  | y :: r => by
    unfold ins
    split
    · rfl
    · simp [length_ins x r]
theorem length_run (c : Chg) (d : Dir) : (c.run d).length ≤ d.length + 1 := by
  have hd : ∀ s, (del s d).length ≤ d.length := fun s => List.length_filter_le _ _
  have h1 : (if c.src = [] then d else del c.src d).length ≤ d.length := by
    split
    · exact Nat.le_refl _
    · exact hd _
  unfold Chg.run
  simp only
  split
  · omega
  · split
    · unfold put
      rw [length_ins]
      have := List.length_filter_le (fun p : Str × Nat => !(p.1 == c.dst)) (if c.src = [] then d else del c.src d)
      unfold del at *
      omega
    · omega
theorem length_runs : ∀ (cs : List Chg) (d : Dir), (runs cs d).length ≤ d.length + cs.length
  | [], d => by simp [runs]
  | c :: r, d => by
    have h1 := length_runs r (c.run d)
    have h2 := length_run c d
    simp only [runs, List.length_cons]
    omega
theorem turn_len (t : Str) (x : Int) (m : Nat) : (turn t x m).length = t.length := by
  unfold turn
  rw [List.length_mapIdx]
def keptL (f : File) (ks : List Int) (k : Nat) : Nat := match ks[k]? with
  | some x => (held x ((f.data.length : Int) - f.lasts)).toNat
  | none => 0
theorem left_eqL (f : File) (ks : List Int) (sp : List (Int × Nat)) (k : Nat) :
    left f ks sp k = ⟨f.data.take f.lasts ++ (if keptL f ks k = 0 then (f.data.drop f.lasts).take (keptL f ks k) else match sp[k]? with
      | some q => turn ((f.data.drop f.lasts).take (keptL f ks k)) q.1 q.2
      | none => (f.data.drop f.lasts).take (keptL f ks k)), f.lasts + keptL f ks k⟩ := rfl
theorem left_le (f : File) (ks : List Int) (sp : List (Int × Nat)) (k : Nat) : (left f ks sp k).data.length ≤ f.data.length := by
  have key : ∀ n : Nat, ∀ u : Str, u.length = ((f.data.drop f.lasts).take n).length → (f.data.take f.lasts ++ u).length ≤ f.data.length := fun n u hu => by
    have h1 : ((f.data.drop f.lasts).take n).length ≤ f.data.length - f.lasts := by rw [List.length_take, List.length_drop]; omega
    rw [List.length_append, List.length_take, hu]
    omega
  rw [left_eqL]
  dsimp only
  apply key (keptL f ks k)
  split
  · rfl
  · split
    · exact turn_len _ _ _
    · rfl
theorem tails_le (ks : List Int) (sp : List (Int × Nat)) : ∀ (d : Dir) (k : Nat) (G : Nat → File) (j : Nat), (tails ks sp d k G j).data.length ≤ (G j).data.length
  | [], _, _, _ => Nat.le_refl _
  | p :: r, k, G, j => by
    unfold tails
    split
    · exact tails_le ks sp r k G j
    · refine Nat.le_trans (tails_le ks sp r (k + 1) _ j) ?_
      unfold upd
      split
      · rename_i e
        rw [e]
        exact left_le _ _ _ _
      · exact Nat.le_refl _

end Go.Proofs.YtfeconankopjmaaGreatDoor.Dk

/- What stays true of a disk, whatever is done to it. No function is named. -/
namespace Go.Proofs.YtfeconankopjmaaGreatDoor.Dk
open Go

def Nm (s : Str) : Prop := s ≠ [] ∧ s.length ≤ 24
theorem nm_of {s : Str} (h : isName s = true) : Nm s := by
  unfold isName at h
  simp only [Bool.and_eq_true, decide_eq_true_eq] at h
  exact ⟨h.1.1, h.1.2⟩
/-- After n operations that brought m bytes. -/
structure Good (n m : Nat) (S : Disk) : Prop where
  fuse : S.fuse ≤ 9223372036854775807
  room0 : 0 ≤ S.room
  room : S.room ≤ 1048576
  count : S.lasting.length + S.changes.length ≤ n
  least : -((n * m : Nat) : Int) ≤ S.used
  most : S.used ≤ ((n * m : Nat) : Int)
  dat : ∀ i, (S.file i).data.length ≤ m
  cans : Cans S.changes S.lasting
  runs : S.now = Dk.runs S.changes S.lasting
  names : ∀ p ∈ S.lasting, Nm p.1
  chgs : ∀ c ∈ S.changes, (c.src = [] ∨ Nm c.src) ∧ (c.dst = [] ∨ Nm c.dst)

theorem name_run {c : Chg} {d : Dir} {y : Str × Nat} (h : y ∈ c.run d) : y ∈ d ∨ (y.1 = c.dst ∧ c.dst ≠ []) := by
  unfold Chg.run at h
  simp only at h
  have hd1 : ∀ z, z ∈ (if c.src = [] then d else del c.src d) → z ∈ d := fun z hz => by
    split at hz
    · exact hz
    · exact (mem_del.1 hz).1
  split at h
  · exact Or.inl (hd1 _ h)
  · rename_i hne
    split at h
    · rcases mem_put.1 h with rfl | h
      · exact Or.inr ⟨rfl, hne⟩
      · exact Or.inl (hd1 _ h.1)
    · exact Or.inl (hd1 _ h)
theorem names_runs : ∀ {cs : List Chg} {d : Dir}, (∀ p ∈ d, Nm p.1) → (∀ c ∈ cs, (c.src = [] ∨ Nm c.src) ∧ (c.dst = [] ∨ Nm c.dst)) → ∀ p ∈ Dk.runs cs d, Nm p.1
  | [], _, hd, _, p, hp => hd p hp
  | c :: r, d, hd, hc, p, hp => names_runs (cs := r) (fun q hq => by
      rcases name_run hq with h | ⟨h1, h2⟩
      · exact hd q h
      · rcases (hc c (List.mem_cons_self ..)).2 with h3 | h3
        · exact absurd h3 h2
        · rw [h1]; exact h3) (fun x hx => hc x (List.mem_cons_of_mem _ hx)) p hp
theorem Good.nowNames {n m : Nat} {S : Disk} (G : Good n m S) : ∀ p ∈ S.now, Nm p.1 := by
  rw [G.runs]
  exact names_runs G.names G.chgs
theorem Good.nowLen {n m : Nat} {S : Disk} (G : Good n m S) : S.now.length ≤ n := by
  rw [G.runs]
  exact Nat.le_trans (length_runs _ _) G.count
theorem mul_step (n m l : Nat) : n * m + m + l ≤ (n + 1) * (m + l) := by
  rw [Nat.add_mul, Nat.one_mul, Nat.mul_add]
  omega
theorem Good.more {n m : Nat} {S : Disk} (G : Good n m S) (l : Nat) : Good (n + 1) (m + l) S := by
  have h := mul_step n m l
  have h1 := G.least
  have h2 := G.most
  exact ⟨G.fuse, G.room0, G.room, Nat.le_succ_of_le G.count, by omega, by omega, fun i => Nat.le_trans (G.dat i) (Nat.le_add_right _ _), G.cans, G.runs, G.names, G.chgs⟩
theorem Good.burnt {n m : Nat} {S : Disk} (G : Good n m S) : Good n m S.burn := by
  unfold Disk.burn
  split
  · exact G
  · exact ⟨by dsimp only; have := G.fuse; omega, G.room0, G.room, G.count, G.least, G.most, G.dat, G.cans, G.runs, G.names, G.chgs⟩
theorem Good.withFile {n m : Nat} {S : Disk} (G : Good n m S) : Good n m S.with := by
  refine ⟨G.fuse, G.room0, G.room, G.count, G.least, G.most, fun i => ?_, G.cans, G.runs, G.names, G.chgs⟩
  unfold Disk.with upd
  dsimp only
  split
  · exact Nat.zero_le _
  · exact G.dat i
theorem Good.did {n m : Nat} {S : Disk} (G : Good n m S) (c : Chg) (lost : Option Nat) (hc : c.Can S.now) (hn : (c.src = [] ∨ Nm c.src) ∧ (c.dst = [] ∨ Nm c.dst)) : Good (n + 1) m (S.did c lost) := by
  have h : n * m + m ≤ (n + 1) * m := by rw [Nat.add_mul, Nat.one_mul]; exact Nat.le_refl _
  have h1 := G.least
  have h2 := G.most
  have hs : Dk.sizeOf S lost ≤ m := by
    unfold Dk.sizeOf
    split
    · exact G.dat _
    · exact Nat.zero_le _
  have h3 := G.count
  unfold Disk.did
  refine ⟨G.fuse, G.room0, G.room, by simp; omega, by dsimp only; omega, by dsimp only; omega, G.dat, cans_append.2 ⟨G.cans, ?_⟩, ?_, G.names, fun x hx => ?_⟩
  · rw [← G.runs]; exact ⟨hc, trivial⟩
  · dsimp only
    rw [runs_append, ← G.runs]
    rfl
  · rcases List.mem_append.1 hx with hx | hx
    · exact G.chgs x hx
    · obtain rfl : x = c := by simpa using hx
      exact hn
theorem Good.setFile {n m : Nat} {S : Disk} (G : Good n m S) (i : Nat) (f : File) (l : Nat) (hf : f.data.length ≤ m + l) : Good (n + 1) (m + l) (S.setFile i f) := by
  have G' := G.more l
  refine ⟨G'.fuse, G'.room0, G'.room, G'.count, G'.least, G'.most, fun j => ?_, G'.cans, G'.runs, G'.names, G'.chgs⟩
  unfold Disk.setFile upd
  dsimp only
  split
  · exact hf
  · exact G'.dat j

theorem burn_eqs (S : Disk) : S.burn.now = S.now ∧ S.burn.lasting = S.lasting ∧ S.burn.changes = S.changes ∧ S.burn.file = S.file ∧ S.burn.next = S.next ∧ S.burn.used = S.used ∧ S.burn.room = S.room := by
  unfold Disk.burn
  split <;> exact ⟨rfl, rfl, rfl, rfl, rfl, rfl, rfl⟩
theorem Good.change {n m : Nat} {S : Disk} (G : Good n m S) (c : Chg) (lost : Option Nat) (hc : c.Can S.now) (hn : (c.src = [] ∨ Nm c.src) ∧ (c.dst = [] ∨ Nm c.dst)) : Good (n + 1) m (S.change c lost).2 := by
  unfold Disk.change
  split
  · exact G.burnt.more 0
  · exact G.burnt.did c lost (by rw [(burn_eqs S).1]; exact hc) hn
theorem Good.create {n m : Nat} {S : Disk} (G : Good n m S) (s : Str) : Good (n + 1) m (S.create s).2 := by
  unfold Disk.create
  split
  · exact G.more 0
  · split
    · exact G.more 0
    · rename_i hn
      split
      · exact G.more 0
      · split
        · exact G.burnt.more 0
        · have hnm := nm_of (s := s) (by simpa using hn)
          exact G.burnt.withFile.did _ _ ⟨fun _ => ⟨S.next, rfl⟩, fun _ => hnm.1⟩ ⟨Or.inl rfl, Or.inr hnm⟩
theorem Good.append {n m : Nat} {S : Disk} (G : Good n m S) (s data : Str) : Good (n + 1) (m + data.length) (S.append s data).2 := by
  unfold Disk.append
  split
  · exact G.more _
  · split
    · exact G.more _
    · split
      · exact G.more _
      · split
        · exact G.burnt.more _
        · rename_i i _ _ _
          have G' := G.burnt.setFile i ⟨(S.file i).data ++ data, (S.file i).lasts⟩ data.length (by rw [List.length_append]; have := G.dat i; omega)
          have h := mul_step n m data.length
          have h1 := G.least
          have h2 := G.most
          exact ⟨G'.fuse, G'.room0, G'.room, G'.count, by dsimp only; omega, by dsimp only; omega, G'.dat, G'.cans, G'.runs, G'.names, G'.chgs⟩
theorem Good.sync {n m : Nat} {S : Disk} (G : Good n m S) (s : Str) : Good (n + 1) m (S.sync s).2 := by
  unfold Disk.sync
  split
  · exact G.more 0
  · split
    · exact G.more 0
    · split
      · exact G.burnt.more 0
      · exact G.burnt.setFile _ _ 0 (G.dat _)
theorem look_name {n m : Nat} {S : Disk} (G : Good n m S) {s : Str} {i : Nat} (h : look s S.now = some i) : Nm s := G.nowNames _ (mem_of_look h)
theorem Good.rename {n m : Nat} {S : Disk} (G : Good n m S) (s t : Str) : Good (n + 1) m (S.rename s t).2 := by
  unfold Disk.rename
  split
  · exact G.more 0
  · split
    · exact G.more 0
    · rename_i hn
      have hnm := nm_of (s := t) (by simpa using hn)
      split
      · exact G.more 0
      · rename_i i hl
        have hns := look_name G hl
        split
        · split
          · exact G.burnt.more 0
          · exact G.burnt.more 0
        · exact G.change _ _ ⟨fun _ => ⟨i, by unfold Chg.file; rw [if_neg hns.1]; exact hl⟩, fun e => absurd e hns.1⟩ ⟨Or.inr hns, Or.inr hnm⟩
theorem Good.delete {n m : Nat} {S : Disk} (G : Good n m S) (s : Str) : Good (n + 1) m (S.delete s).2 := by
  unfold Disk.delete
  split
  · exact G.more 0
  · split
    · exact G.more 0
    · rename_i i hl
      have hns := look_name G hl
      exact G.change _ _ ⟨fun e => absurd rfl e, fun e => absurd e hns.1⟩ ⟨Or.inr hns, Or.inl rfl⟩
theorem Good.keep {n m : Nat} {S : Disk} (G : Good n m S) : Good n m (S.keep S.changes.length) := by
  have h1 := length_runs S.changes S.lasting
  have h2 := G.count
  unfold Disk.keep
  rw [List.take_length]
  refine ⟨G.fuse, G.room0, G.room, by dsimp only; simp; omega, G.least, G.most, G.dat, trivial, ?_, names_runs G.names G.chgs, fun c hc => by simp at hc⟩
  dsimp only
  rw [G.runs]
  rfl
theorem Good.dirSync {n m : Nat} {S : Disk} (G : Good n m S) : Good (n + 1) m S.dirSync.2 := by
  unfold Disk.dirSync
  split
  · exact G.more 0
  · split
    · exact G.burnt.more 0
    · have := G.burnt.keep.more 0
      rw [(burn_eqs S).2.2.1] at this
      exact this
theorem Good.light {n m : Nat} {S : Disk} (G : Good n m S) (k : Int) (hk : k ≤ 9223372036854775807) : Good n m (S.light k) :=
  ⟨by unfold Disk.light; dsimp only; omega, G.room0, G.room, G.count, G.least, G.most, G.dat, G.cans, G.runs, G.names, G.chgs⟩
theorem Good.start {n m : Nat} {S : Disk} (G : Good n m S) : Good n m S.start := ⟨G.fuse, G.room0, G.room, G.count, G.least, G.most, G.dat, G.cans, G.runs, G.names, G.chgs⟩
theorem total_le (F : Nat → File) (m : Nat) (h : ∀ i, (F i).data.length ≤ m) : ∀ d : Dir, total F d ≤ d.length * m
  | [] => by simp [total]
  | p :: r => by
    have h1 := total_le F m h r
    have h2 := h p.2
    simp only [total, List.length_cons, Nat.add_mul, Nat.one_mul]
    omega
theorem Good.crash {n m : Nat} {S : Disk} (G : Good n m S) (c : Crash) : Good (n + 1) m (S.crash c) := by
  have h1 := length_runs (S.changes.take (held c.names S.changes.length).toNat) S.lasting
  have h2 := G.count
  rw [List.length_take] at h1
  have hd : ∀ i, (tails c.keep c.spoil (Dk.runs (S.changes.take (held c.names S.changes.length).toNat) S.lasting) 0 S.file i).data.length ≤ m := fun i => Nat.le_trans (tails_le _ _ _ _ _ i) (G.dat i)
  have h3 := total_le _ m hd (Dk.runs (S.changes.take (held c.names S.changes.length).toNat) S.lasting)
  have h4 : (Dk.runs (S.changes.take (held c.names S.changes.length).toNat) S.lasting).length * m ≤ (n + 1) * m := Nat.mul_le_mul_right _ (by omega)
  unfold Disk.crash
  simp only
  exact ⟨G.fuse, G.room0, G.room, by dsimp only; simp; omega, by dsimp only; omega, by dsimp only; omega, hd, trivial, rfl, names_runs G.names (fun c hc => G.chgs c (List.mem_of_mem_take hc)), fun c hc => by simp at hc⟩
theorem good_fresh (room : Int) : Good 0 0 (fresh room) := by
  refine ⟨by simp [fresh], ?_, ?_, by simp [fresh], by simp [fresh], by simp [fresh], fun _ => by simp [fresh], trivial, rfl, fun p hp => by simp [fresh] at hp, fun c hc => by simp [fresh] at hc⟩
  · unfold fresh held; dsimp only; omega
  · unfold fresh held; dsimp only; omega
theorem Good.mono {n m n' m' : Nat} {S : Disk} (G : Good n m S) (hn : n ≤ n') (hm : m ≤ m') : Good n' m' S := by
  have h : n * m ≤ n' * m' := Nat.mul_le_mul hn hm
  have h1 := G.least
  have h2 := G.most
  exact ⟨G.fuse, G.room0, G.room, Nat.le_trans G.count hn, by omega, by omega, fun i => Nat.le_trans (G.dat i) hm, G.cans, G.runs, G.names, G.chgs⟩

end Go.Proofs.YtfeconankopjmaaGreatDoor.Dk

/- Each file has one name: what stays true of directories. No function is named. -/
namespace Go.Proofs.YtfeconankopjmaaGreatDoor.Dk
open Go

theorem look_nil (s : Str) : look s [] = none := rfl
theorem look_cons (s : Str) (p : Str × Nat) (d : Dir) : look s (p :: d) = if p.1 = s then some p.2 else look s d := by
  unfold look
  rw [List.find?_cons]
  by_cases h : p.1 = s
  · rw [if_pos h]; simp [h]
  · rw [if_neg h]
    have : (p.1 == s) = false := by rw [beq_eq_false_iff_ne]; exact h
    rw [this]
theorem look_none {s : Str} : ∀ {d : Dir}, (∀ p ∈ d, p.1 ≠ s) → look s d = none
  | [], _ => rfl
  | p :: r, h => by
    rw [look_cons, if_neg (h p (List.mem_cons_self ..))]
    exact look_none fun q hq => h q (List.mem_cons_of_mem _ hq)
theorem look_del_same (s : Str) (d : Dir) : look s (del s d) = none := look_none fun _ hp => (mem_del.1 hp).2
theorem look_del_other {s t : Str} (h : t ≠ s) : ∀ d : Dir, look t (del s d) = look t d
  | [] => rfl
  | p :: r => by
    have ih := look_del_other h r
    unfold del at ih ⊢
    rw [List.filter_cons, look_cons]
    by_cases hp : p.1 = s
    · have e1 : (!(p.1 == s)) = false := by simp [hp]
      rw [e1]
      simp only [Bool.false_eq_true, if_false]
      rw [if_neg (by rw [hp]; exact fun e => h e.symm)]
      exact ih
    · have e1 : (!(p.1 == s)) = true := by simp [hp]
      rw [e1]
      simp only [if_true]
      rw [look_cons, ih]
theorem look_ins {s t : Str} {i : Nat} : ∀ {d : Dir}, (∀ p ∈ d, p.1 ≠ s) → look t (ins (s, i) d) = if t = s then some i else look t d
  | [], _ => by
    unfold ins
    rw [look_cons]
    by_cases h : t = s
    · rw [if_pos h, if_pos h.symm]
    · rw [if_neg h, if_neg (fun e => h e.symm)]
  | p :: r, hd => by
    unfold ins
    split
    · rw [look_cons]
      by_cases h : t = s
      · rw [if_pos h, if_pos h.symm]
      · rw [if_neg h, if_neg (fun e => h e.symm)]
    · rw [look_cons, look_ins (fun q hq => hd q (List.mem_cons_of_mem _ hq)), look_cons]
      by_cases h : t = s
      · rw [if_pos h, if_pos h, if_neg (by rw [h]; exact hd p (List.mem_cons_self ..))]
      · rw [if_neg h, if_neg h]
theorem look_put (s t : Str) (i : Nat) (d : Dir) : look t (put s i d) = if t = s then some i else look t d := by
  unfold put
  rw [look_ins (fun _ hp => (mem_del.1 hp).2)]
  by_cases h : t = s
  · rw [if_pos h, if_pos h]
  · rw [if_neg h, if_neg h, look_del_other h]
theorem look_run {c : Chg} {d : Dir} {t : Str} (h1 : t ≠ c.src) (h2 : t ≠ c.dst) : look t (c.run d) = look t d := by
  unfold Chg.run
  simp only
  have hd : look t (if c.src = [] then d else del c.src d) = look t d := by
    split
    · rfl
    · exact look_del_other h1 d
  split
  · exact hd
  · split
    · rw [look_put, if_neg h2]; exact hd
    · exact hd
theorem look_runs : ∀ {cs : List Chg} {d : Dir} {t : Str}, (∀ c ∈ cs, t ≠ c.src ∧ t ≠ c.dst) → look t (runs cs d) = look t d
  | [], _, _, _ => rfl
  | c :: r, d, t, h => by
    have h1 := h c (List.mem_cons_self ..)
    exact (look_runs (cs := r) fun x hx => h x (List.mem_cons_of_mem _ hx)).trans (look_run h1.1 h1.2)

/-- No file has two names. -/
def Uniq (d : Dir) : Prop := ∀ p ∈ d, ∀ q ∈ d, p.2 = q.2 → p.1 = q.1
theorem uniq_run {c : Chg} {d : Dir} (h : Uniq d) (hm : c.src = [] → ∀ i, c.made = some i → ∀ p ∈ d, p.2 ≠ i) : Uniq (c.run d) := by
  have hd1 : ∀ z, z ∈ (if c.src = [] then d else del c.src d) → z ∈ d := fun z hz => by
    split at hz
    · exact hz
    · exact (mem_del.1 hz).1
  have hu : Uniq (if c.src = [] then d else del c.src d) := fun p hp q hq e => h p (hd1 p hp) q (hd1 q hq) e
  unfold Chg.run
  simp only
  split
  · exact hu
  · split
    · rename_i i hi
      have hno : ∀ p ∈ (if c.src = [] then d else del c.src d), p.2 ≠ i := fun p hp => by
        unfold Chg.file at hi
        by_cases hs : c.src = []
        · rw [if_pos hs] at hi hp
          exact hm hs i hi p hp
        · rw [if_neg hs] at hi hp
          have h1 := mem_del.1 hp
          intro e
          exact h1.2 (h p h1.1 (c.src, i) (mem_of_look hi) e)
      intro p hp q hq e
      rcases mem_put.1 hp with rfl | hp'
      · rcases mem_put.1 hq with rfl | hq'
        · rfl
        · exact absurd e.symm (hno q hq'.1)
      · rcases mem_put.1 hq with rfl | hq'
        · exact absurd e (hno p hp'.1)
        · exact hu p hp'.1 q hq'.1 e
    · exact hu

/-- Whatever a crash leaves of the directory, no file has two names; all numbers are below the next one. -/
structure Sole (S : Disk) : Prop where
  uniq : ∀ k, Uniq (Dk.runs (S.changes.take k) S.lasting)
  old : ∀ p ∈ S.lasting, p.2 < S.next
  made : ∀ c ∈ S.changes, ∀ i, c.made = some i → i < S.next
theorem ids_runs : ∀ {cs : List Chg} {d : Dir} {n : Nat}, (∀ p ∈ d, p.2 < n) → (∀ c ∈ cs, ∀ i, c.made = some i → i < n) → ∀ p ∈ Dk.runs cs d, p.2 < n
  | [], _, _, hd, _, p, hp => hd p hp
  | c :: r, d, n, hd, hc, p, hp => ids_runs (cs := r) (fun q hq => by
      rcases id_run hq with ⟨z, hz, e⟩ | e
      · rw [← e]; exact hd z hz
      · exact hc c (List.mem_cons_self ..) _ e) (fun x hx => hc x (List.mem_cons_of_mem _ hx)) p hp
theorem Sole.burnt {S : Disk} (h : Sole S) : Sole S.burn := by
  obtain ⟨b1, b2, b3, b4, b5, _, _⟩ := burn_eqs S
  exact ⟨by rw [b2, b3]; exact h.uniq, by rw [b2, b5]; exact h.old, by rw [b3, b5]; exact h.made⟩
theorem Sole.did {n m : Nat} {S : Disk} (h : Sole S) (G : Good n m S) (c : Chg) (lost : Option Nat) (hm : c.src = [] → ∀ i, c.made = some i → ∀ p ∈ S.now, p.2 ≠ i) (hn : ∀ i, c.made = some i → i < S.next) : Sole (S.did c lost) := by
  unfold Disk.did
  refine ⟨fun k => ?_, h.old, fun x hx i hi => ?_⟩
  · dsimp only
    rcases Nat.lt_or_ge S.changes.length k with hk | hk
    · rw [List.take_of_length_le (by rw [List.length_append, List.length_singleton]; omega), runs_append, ← G.runs]
      have h1 := h.uniq S.changes.length
      rw [List.take_length, ← G.runs] at h1
      exact uniq_run h1 hm
    · rw [List.take_append_of_le_length hk]
      exact h.uniq k
  · rcases List.mem_append.1 hx with hx | hx
    · exact h.made x hx i hi
    · obtain rfl : x = c := by simpa using hx
      exact hn i hi
theorem Sole.change {n m : Nat} {S : Disk} (h : Sole S) (G : Good n m S) (c : Chg) (lost : Option Nat) (hm : c.src = [] → ∀ i, c.made = some i → ∀ p ∈ S.now, p.2 ≠ i) (hn : ∀ i, c.made = some i → i < S.next) : Sole (S.change c lost).2 := by
  obtain ⟨b1, b2, b3, b4, b5, _, _⟩ := burn_eqs S
  unfold Disk.change
  split
  · exact h.burnt
  · exact h.burnt.did G.burnt c lost (by rw [b1]; exact hm) (by rw [b5]; exact hn)
theorem Sole.nowIds {n m : Nat} {S : Disk} (h : Sole S) (G : Good n m S) : ∀ p ∈ S.now, p.2 < S.next := by
  rw [G.runs]
  exact ids_runs h.old h.made
theorem Sole.create {n m : Nat} {S : Disk} (h : Sole S) (G : Good n m S) (s : Str) : Sole (S.create s).2 := by
  unfold Disk.create
  split
  · exact h
  · split
    · exact h
    · split
      · exact h
      · split
        · exact h.burnt
        · obtain ⟨b1, b2, b3, b4, b5, _, _⟩ := burn_eqs S
          have hw : Sole S.burn.with := ⟨h.burnt.uniq, fun p hp => by have := h.burnt.old p hp; unfold Disk.with; dsimp only; omega, fun c hc i hi => by have := h.burnt.made c hc i hi; unfold Disk.with; dsimp only; omega⟩
          refine hw.did G.burnt.withFile _ _ (fun _ i hi p hp => ?_) (fun i hi => ?_)
          · simp only [Option.some.injEq] at hi
            have h1 := h.nowIds G
            have hp' : p ∈ S.now := by
              have : S.burn.with.now = S.now := b1
              rw [this] at hp
              exact hp
            have := h1 p hp'
            omega
          · simp only [Option.some.injEq] at hi
            unfold Disk.with
            dsimp only
            rw [b5]
            omega
theorem Sole.files {S : Disk} (h : Sole S) (F : Nat → File) (u : Int) : Sole { S with file := F, used := u } := ⟨h.uniq, h.old, h.made⟩
theorem Sole.append {S : Disk} (h : Sole S) (s data : Str) : Sole (S.append s data).2 := by
  unfold Disk.append
  split
  · exact h
  · split
    · exact h
    · split
      · exact h
      · split
        · exact h.burnt
        · exact h.burnt.files _ _
theorem Sole.sync {S : Disk} (h : Sole S) (s : Str) : Sole (S.sync s).2 := by
  unfold Disk.sync
  split
  · exact h
  · split
    · exact h
    · split
      · exact h.burnt
      · exact h.burnt.files _ _
theorem Sole.rename {n m : Nat} {S : Disk} (h : Sole S) (G : Good n m S) (s t : Str) : Sole (S.rename s t).2 := by
  unfold Disk.rename
  split
  · exact h
  · split
    · exact h
    · split
      · exact h
      · rename_i i hl
        split
        · split
          · exact h.burnt
          · exact h.burnt
        · exact h.change G _ _ (fun _ i hi => by cases hi) (fun i hi => by cases hi)
theorem Sole.delete {n m : Nat} {S : Disk} (h : Sole S) (G : Good n m S) (s : Str) : Sole (S.delete s).2 := by
  unfold Disk.delete
  split
  · exact h
  · split
    · exact h
    · exact h.change G _ _ (fun _ i hi => by cases hi) (fun i hi => by cases hi)
theorem Sole.keepAll {S : Disk} (h : Sole S) (k : Nat) (D : Disk) (h1 : D.lasting = Dk.runs (S.changes.take k) S.lasting) (h2 : D.changes = []) (h3 : D.next = S.next) : Sole D := by
  refine ⟨fun j => ?_, ?_, fun c hc => by rw [h2] at hc; simp at hc⟩
  · rw [h1, h2, List.take_nil]
    exact h.uniq k
  · rw [h1, h3]
    exact ids_runs h.old (fun c hc => h.made c (List.mem_of_mem_take hc))
theorem Sole.dirSync {S : Disk} (h : Sole S) : Sole S.dirSync.2 := by
  unfold Disk.dirSync
  split
  · exact h
  · split
    · exact h.burnt
    · exact h.burnt.keepAll S.changes.length _ rfl rfl rfl
theorem Sole.crash {S : Disk} (h : Sole S) (c : Crash) : Sole (S.crash c) := h.keepAll _ _ rfl rfl rfl
theorem sole_fresh (room : Int) : Sole (fresh room) := ⟨fun k p hp => by simp [fresh, Dk.runs] at hp, fun p hp => by simp [fresh] at hp, fun c hc => by simp [fresh] at hc⟩

end Go.Proofs.YtfeconankopjmaaGreatDoor.Dk

/- What a crash leaves of tails. No function is named. -/
namespace Go.Proofs.YtfeconankopjmaaGreatDoor.Dk
open Go

theorem held_nat (x : Int) (n : Nat) : (held x (n : Int)).toNat ≤ n := by unfold held; omega
/-- So many bytes of a tail a crash keeps. -/
def keptN (f : File) (ks : List Int) (k : Nat) : Nat := match ks[k]? with
  | some x => (held x ((f.data.length : Int) - f.lasts)).toNat
  | none => 0
theorem keptN_le (f : File) (hf : f.lasts ≤ f.data.length) (ks : List Int) (k : Nat) : keptN f ks k ≤ f.data.length - f.lasts := by
  unfold keptN
  split
  · have e : (f.data.length : Int) - f.lasts = ((f.data.length - f.lasts : Nat) : Int) := by omega
    rw [e]; exact held_nat _ _
  · omega
/-- What is kept of a tail, turned. -/
def kept (t : Str) (sp : List (Int × Nat)) (k : Nat) : Str := match sp[k]? with
  | some q => turn t q.1 q.2
  | none => t
theorem kept_length (t : Str) (sp : List (Int × Nat)) (k : Nat) : (kept t sp k).length = t.length := by
  unfold kept
  split
  · unfold turn
    rw [List.length_mapIdx]
  · rfl
theorem left_is (f : File) (ks : List Int) (sp : List (Int × Nat)) (k : Nat) :
    left f ks sp k = ⟨f.data.take f.lasts ++ (if keptN f ks k = 0 then (f.data.drop f.lasts).take (keptN f ks k) else kept ((f.data.drop f.lasts).take (keptN f ks k)) sp k), f.lasts + keptN f ks k⟩ := rfl
theorem left_lasts (f : File) (hf : f.lasts ≤ f.data.length) (ks : List Int) (sp : List (Int × Nat)) (k : Nat) : (left f ks sp k).lasts = (left f ks sp k).data.length := by
  rw [left_is]
  have hn := keptN_le f hf ks k
  generalize keptN f ks k = n at hn
  dsimp only
  rw [List.length_append, List.length_take, Nat.min_eq_left hf]
  congr 1
  split
  · rw [List.length_take, List.length_drop]; omega
  · rw [kept_length, List.length_take, List.length_drop]; omega

/-- What becomes of a file that stands in the directory. -/
theorem tails_at (ks : List Int) (sp : List (Int × Nat)) (i : Nat) : ∀ (d : Dir) (k : Nat) (G : Nat → File), (G i).lasts ≤ (G i).data.length → (∃ p ∈ d, p.2 = i) →
    ((G i).lasts = (G i).data.length ∧ tails ks sp d k G i = G i) ∨ ((G i).lasts ≠ (G i).data.length ∧ ∃ k', tails ks sp d k G i = left (G i) ks sp k')
  | [], _, _, _, h => by obtain ⟨p, hp, _⟩ := h; simp at hp
  | p :: r, k, G, hG, h => by
    have still : ∀ (d : Dir) (k : Nat) (G : Nat → File), (G i).lasts = (G i).data.length → tails ks sp d k G i = G i := by
      intro d
      induction d with
      | nil => intro k G _; rfl
      | cons q s ih =>
        intro k G hq
        unfold tails
        split
        · exact ih k G hq
        · rename_i hne
          have hqi : q.2 ≠ i := fun e => hne (by rw [e]; exact hq)
          rw [ih (k + 1) _ (by rw [upd_other (fun e => hqi e.symm)]; exact hq), upd_other (fun e => hqi e.symm)]
    by_cases hl : (G i).lasts = (G i).data.length
    · exact Or.inl ⟨hl, still _ _ _ hl⟩
    · refine Or.inr ⟨hl, ?_⟩
      unfold tails
      by_cases hp : p.2 = i
      · rw [hp, if_neg hl]
        refine ⟨k, ?_⟩
        rw [still r (k + 1) _ (by rw [upd_same]; exact left_lasts _ hG ks sp k), upd_same]
      · have hr : ∃ q ∈ r, q.2 = i := by
          obtain ⟨q, hq, e⟩ := h
          rcases List.mem_cons.1 hq with rfl | hq
          · exact absurd e hp
          · exact ⟨q, hq, e⟩
        split
        · rcases tails_at ks sp i r k G hG hr with ⟨h1, _⟩ | ⟨_, h2⟩
          · exact absurd h1 hl
          · exact h2
        · have hoth : ∀ f, upd G p.2 f i = G i := fun f => upd_other (fun e => hp e.symm) f
          rcases tails_at ks sp i r (k + 1) (upd G p.2 (left (G p.2) ks sp k)) (by rw [hoth]; exact hG) hr with ⟨h1, _⟩ | ⟨_, k', h2⟩
          · rw [hoth] at h1; exact absurd h1 hl
          · rw [hoth] at h2; exact ⟨k', h2⟩

/-- Four bytes side by side of b may differ from z; b is no longer than z, and begins with a. -/
structure Near (a b z : Str) : Prop where
  ab : a <+: b
  bz : b.length ≤ z.length
  four : ∃ p, ∀ j (h1 : j < b.length) (h2 : j < z.length), b[j] ≠ z[j] → p ≤ j ∧ j < p + 4
theorem near_self (a : Str) : Near a a a := ⟨List.prefix_refl a, Nat.le_refl _, 0, fun _ _ _ h => absurd rfl h⟩
theorem near_left (f : File) (hf : f.lasts ≤ f.data.length) (ks : List Int) (sp : List (Int × Nat)) (k k' : Nat) : Near (left f [] [] k').data (left f ks sp k).data f.data := by
  have e0 : (left f [] [] k').data = f.data.take f.lasts := by
    rw [left_is]
    simp [keptN]
  rw [e0]
  have hd := left_lasts f hf ks sp k
  rw [left_is] at hd ⊢
  have hn := keptN_le f hf ks k
  generalize keptN f ks k = n at hn hd ⊢
  dsimp only at hd ⊢
  refine ⟨List.prefix_append _ _, by rw [← hd]; omega, ?_⟩
  have same : ∀ j (h1 : j < (f.data.take f.lasts ++ (f.data.drop f.lasts).take n).length) (h2 : j < f.data.length), (f.data.take f.lasts ++ (f.data.drop f.lasts).take n)[j] = f.data[j] := fun j h1 h2 => by
    have e : f.data.take f.lasts ++ (f.data.drop f.lasts).take n = f.data.take (f.lasts + n) := by rw [List.take_add]
    simp only [e, List.getElem_take]
  by_cases hn0 : n = 0
  · simp only [hn0, if_true] at same ⊢
    exact ⟨0, fun j h1 h2 h => absurd (same j h1 h2) h⟩
  · simp only [if_neg hn0]
    unfold kept
    cases sp[k]? with
    | none => exact ⟨0, fun j h1 h2 h => absurd (same j h1 h2) h⟩
    | some q =>
      dsimp only
      refine ⟨f.lasts + (q.1 % (((f.data.drop f.lasts).take n).length : Int)).toNat, fun j h1 h2 h => ?_⟩
      have hlt : (f.data.take f.lasts).length = f.lasts := by rw [List.length_take, Nat.min_eq_left hf]
      rcases Nat.lt_or_ge j f.lasts with hj | hj
      · exfalso
        apply h
        rw [List.getElem_append_left (by omega), List.getElem_take]
      · unfold turn at h h1
        simp only [List.length_append, hlt, List.length_mapIdx] at h1
        rw [List.getElem_append_right (by omega), List.getElem_mapIdx] at h
        split at h
        · rename_i hc
          rw [hlt] at hc
          omega
        · exfalso
          apply h
          have := same j (by rw [List.length_append, hlt]; exact h1) h2
          rw [List.getElem_append_right (by omega)] at this
          exact this

/-- Behind a DirSync a crash keeps all names; each file's bytes are near. -/
theorem crash_near {n m : Nat} {S : Disk} (G : Good n m S) (hfl : ∀ p ∈ S.now, (S.file p.2).lasts ≤ (S.file p.2).data.length) (hc : S.changes = []) (c : Crash) :
    (S.crash c).now = S.now ∧ ∀ p ∈ S.now, Near ((S.crash ⟨0, [], []⟩).file p.2).data ((S.crash c).file p.2).data (S.file p.2).data := by
  have hr : S.now = S.lasting := by rw [G.runs, hc]; rfl
  have e1 : ∀ c : Crash, (S.crash c).now = S.lasting := fun c => by
    unfold Disk.crash
    simp only [hc, List.take_nil]
    rfl
  have e2 : ∀ c : Crash, (S.crash c).file = tails c.keep c.spoil S.lasting 0 S.file := fun c => by
    unfold Disk.crash
    simp only [hc, List.take_nil]
    rfl
  refine ⟨(e1 c).trans hr.symm, fun p hp => ?_⟩
  rw [e2, e2]
  dsimp only
  have hfp := hfl p hp
  rw [hr] at hp
  rcases tails_at [] [] p.2 S.lasting 0 S.file hfp ⟨p, hp, rfl⟩ with ⟨h1, h2⟩ | ⟨h1, k1, h2⟩
  · rcases tails_at c.keep c.spoil p.2 S.lasting 0 S.file hfp ⟨p, hp, rfl⟩ with ⟨_, h4⟩ | ⟨h3, _⟩
    · rw [h2, h4]; exact near_self _
    · exact absurd h1 h3
  · rcases tails_at c.keep c.spoil p.2 S.lasting 0 S.file hfp ⟨p, hp, rfl⟩ with ⟨h3, _⟩ | ⟨_, k2, h4⟩
    · exact absurd h3 h1
    · rw [h2, h4]; exact near_left _ hfp _ _ _ _

end Go.Proofs.YtfeconankopjmaaGreatDoor.Dk
