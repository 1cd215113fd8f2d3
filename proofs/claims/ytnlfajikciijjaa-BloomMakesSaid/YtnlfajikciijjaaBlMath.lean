/- Plain facts on filters: bits, probes, rows: no program is named here. -/
import Derived.WalkKit
namespace Go.Proofs.Ytnlfajikciijjaa.Bl

/-- One byte goes into a hash. -/
def stp (q b : Nat) : Nat := (q ^^^ b) * 1099511628211 % 18446744073709551616
/-- The hash of some bytes, gone on with from q. -/
def hs (q : Nat) (l : List UInt8) : Nat := l.foldl (fun q b => stp q b.toNat) q
/-- A key's hash. -/
def hash (l : List UInt8) : Nat := hs 14695981039346656037 l
theorem stp_lt (q b : Nat) : stp q b < 18446744073709551616 := Nat.mod_lt _ (by decide)
theorem hs_snoc (q : Nat) (l : List UInt8) (b : UInt8) : hs q (l ++ [b]) = stp (hs q l) b.toNat := by
  unfold hs
  rw [List.foldl_append]
  generalize List.foldl _ q l = x
  rw [List.foldl_cons, List.foldl_nil]
theorem hs_lt {q : Nat} (h : q < 18446744073709551616) : ∀ l : List UInt8, hs q l < 18446744073709551616
  | [] => h
  | b :: l => hs_lt (stp_lt q b.toNat) l
theorem hash_lt (l : List UInt8) : hash l < 18446744073709551616 := hs_lt (by decide) l

/-- Where a hash begins, and how it goes on. -/
def at0 (h : Nat) : Nat := h % 4294967296
def strd (h : Nat) : Nat := (h / 4294967296) ||| 1
/-- A key's i-th probe in a filter of m bits. -/
def pr (h m i : Nat) : Nat := (at0 h + i * strd h) % 4294967296 % m
theorem pr_lt (h m i : Nat) (hm : 0 < m) : pr h m i < m := Nat.mod_lt _ hm
theorem strd_lt {h : Nat} (hh : h < 18446744073709551616) : strd h < 4294967296 := by
  unfold strd
  exact Nat.or_lt_two_pow (n := 32) (by omega) (by decide)
theorem strd_odd (h : Nat) : strd h = if h / 4294967296 % 2 = 0 then h / 4294967296 + 1 else h / 4294967296 := by
  unfold strd
  generalize h / 4294967296 = q
  have one : ∀ i, (1 : Nat).testBit (i + 1) = false := fun i => by simp [Nat.testBit_succ]
  by_cases hq : q % 2 = 0
  · rw [if_pos hq]
    apply Nat.eq_of_testBit_eq
    intro i
    cases i with
    | zero => rw [Nat.testBit_or, Nat.testBit_zero, Nat.testBit_zero, Nat.testBit_zero]; simp; omega
    | succ i =>
      rw [Nat.testBit_or, one, Bool.or_false, Nat.testBit_succ, Nat.testBit_succ]
      congr 1
      omega
  · rw [if_neg hq]
    apply Nat.eq_of_testBit_eq
    intro i
    cases i with
    | zero => rw [Nat.testBit_or, Nat.testBit_zero, Nat.testBit_zero]; simp; omega
    | succ i => rw [Nat.testBit_or, one, Bool.or_false]

/-- A filter's bit. -/
def bit (l : List UInt8) (j : Nat) : Bool := (l.getD (j / 8) 0).toNat.testBit (j % 8)
/-- A byte with one bit more. -/
def put1 (b : UInt8) (k : Nat) : UInt8 := UInt8.ofNat (b.toNat ||| 2 ^ k)
/-- A filter with one bit more. -/
def set1 (l : List UInt8) (j : Nat) : List UInt8 := l.set (j / 8) (put1 (l.getD (j / 8) 0) (j % 8))
theorem set1_length (l : List UInt8) (j : Nat) : (set1 l j).length = l.length := by simp [set1]
theorem put1_nat (b : UInt8) (k : Nat) (hk : k < 8) : (put1 b k).toNat = b.toNat ||| 2 ^ k := by
  unfold put1
  rw [UInt8.toNat_ofNat']
  refine Nat.mod_eq_of_lt ?_
  have h1 : b.toNat < 2 ^ 8 := b.toNat_lt
  have h2 : 2 ^ k < 2 ^ 8 := Nat.pow_lt_pow_right (by decide) hk
  exact Nat.or_lt_two_pow h1 h2
theorem getD_set (l : List UInt8) (a b : Nat) (v : UInt8) (hb : b < l.length) : (l.set a v).getD b 0 = if a = b then v else l.getD b 0 := by
  by_cases h : a = b
  · subst h; simp [hb]
  · simp [List.getD_eq_getElem?_getD, List.getElem?_set_ne h, h]
theorem bit_set1 (l : List UInt8) (j i : Nat) (hj : j < 8 * l.length) : bit (set1 l j) i = (bit l i || decide (i = j)) := by
  unfold bit set1
  by_cases hi : i / 8 < l.length
  · rw [getD_set _ _ _ _ hi]
    by_cases h : j / 8 = i / 8
    · rw [if_pos h, put1_nat _ _ (Nat.mod_lt _ (by decide)), Nat.testBit_or, Nat.testBit_two_pow, h]
      congr 1
      exact decide_eq_decide.2 ⟨fun e => by omega, fun e => by omega⟩
    · rw [if_neg h]
      have : decide (i = j) = false := by simp; rintro rfl; exact h rfl
      rw [this, Bool.or_false]
  · have h1 : (l.set (j / 8) (put1 (l.getD (j / 8) 0) (j % 8))).getD (i / 8) 0 = 0 := by
      rw [List.getD_eq_getElem?_getD, List.getElem?_eq_none (by simp; omega)]; rfl
    have h2 : l.getD (i / 8) 0 = 0 := by rw [List.getD_eq_getElem?_getD, List.getElem?_eq_none (by omega)]; rfl
    rw [h1, h2]
    have : decide (i = j) = false := by simp; rintro rfl; omega
    simp [this]

/-- The first k probes of a key go into a filter. -/
def adds (l : List UInt8) (h : Nat) : Nat → List UInt8
  | 0 => l
  | k + 1 => set1 (adds l h k) (pr h (8 * l.length) k)
theorem adds_length (l : List UInt8) (h : Nat) : ∀ k, (adds l h k).length = l.length
  | 0 => rfl
  | k + 1 => by rw [adds, set1_length, adds_length l h k]
theorem bit_adds (l : List UInt8) (h i : Nat) (hl : 0 < l.length) : ∀ k, bit (adds l h k) i = true ↔ bit l i = true ∨ ∃ n, n < k ∧ i = pr h (8 * l.length) n
  | 0 => by simp [adds]
  | k + 1 => by
    rw [adds, bit_set1 _ _ _ (by rw [adds_length]; exact pr_lt _ _ _ (by omega)), Bool.or_eq_true, bit_adds l h i hl k, decide_eq_true_eq]
    constructor
    · rintro ((h1 | ⟨n, hn, e⟩) | e)
      · exact Or.inl h1
      · exact Or.inr ⟨n, by omega, e⟩
      · exact Or.inr ⟨k, by omega, e⟩
    · rintro (h1 | ⟨n, hn, e⟩)
      · exact Or.inl (Or.inl h1)
      · rcases Nat.lt_succ_iff_lt_or_eq.1 hn with h2 | rfl
        · exact Or.inl (Or.inr ⟨n, h2, e⟩)
        · exact Or.inr e

/-- Keys go into a filter. -/
def addk (l : List UInt8) (ks : List (List UInt8)) : List UInt8 := ks.foldl (fun l k => adds l (hash k) 6) l
theorem addk_snoc (l : List UInt8) (ks : List (List UInt8)) (k : List UInt8) : addk l (ks ++ [k]) = adds (addk l ks) (hash k) 6 := by simp [addk, List.foldl_append]
theorem addk_length : ∀ (ks : List (List UInt8)) (l : List UInt8), (addk l ks).length = l.length
  | [], _ => rfl
  | k :: ks, l => by
    show (addk (adds l (hash k) 6) ks).length = _
    rw [addk_length ks, adds_length]
theorem bit_addk : ∀ (ks : List (List UInt8)) (l : List UInt8) (i : Nat), 0 < l.length → (bit (addk l ks) i = true ↔ bit l i = true ∨ ∃ k ∈ ks, ∃ n, n < 6 ∧ i = pr (hash k) (8 * l.length) n)
  | [], l, i, _ => by simp [addk]
  | k :: ks, l, i, hl => by
    show bit (addk (adds l (hash k) 6) ks) i = true ↔ _
    rw [bit_addk ks _ i (by rw [adds_length]; exact hl), bit_adds l _ i hl, adds_length]
    simp only [List.mem_cons, exists_eq_or_imp]
    exact or_assoc

/-- How many bytes a filter of n keys has. -/
def size (n : Nat) : Nat := (max 64 (10 * n) + 7) / 8
theorem size_pos (n : Nat) : 8 ≤ size n := by unfold size; omega
theorem size_lt (n : Nat) : 8 * size n < max 64 (10 * n) + 8 ∧ max 64 (10 * n) ≤ 8 * size n := by unfold size; omega
/-- The filter of some keys. -/
def mk (ks : List (List UInt8)) : List UInt8 := addk (List.replicate (size ks.length) 0) ks
theorem mk_length (ks : List (List UInt8)) : (mk ks).length = size ks.length := by rw [mk, addk_length, List.length_replicate]
theorem bit_zero (n i : Nat) : bit (List.replicate n 0) i = false := by
  unfold bit
  have : (List.replicate n (0 : UInt8)).getD (i / 8) 0 = 0 := by
    rw [List.getD_eq_getElem?_getD, List.getElem?_replicate]
    split <;> rfl
  rw [this]; simp
theorem bit_mk (ks : List (List UInt8)) (i : Nat) : bit (mk ks) i = true ↔ ∃ k ∈ ks, ∃ n, n < 6 ∧ i = pr (hash k) (8 * size ks.length) n := by
  rw [mk, bit_addk _ _ _ (by rw [List.length_replicate]; have := size_pos ks.length; omega), bit_zero, List.length_replicate]
  simp

/-- Filters of as many bytes, of the same bits, are the same. -/
theorem bits_ext {a b : List UInt8} (hl : a.length = b.length) (h : ∀ i, bit a i = bit b i) : a = b := by
  refine List.ext_getElem hl fun k h1 h2 => ?_
  have e : ∀ j, j < 8 → a[k].toNat.testBit j = b[k].toNat.testBit j := fun j hj => by
    have := h (8 * k + j)
    unfold bit at this
    have e1 : (8 * k + j) / 8 = k := by omega
    have e2 : (8 * k + j) % 8 = j := by omega
    rw [e1, e2] at this
    simpa [h1, h2] using this
  apply UInt8.toNat_inj.1
  apply Nat.eq_of_testBit_eq
  intro j
  by_cases hj : j < 8
  · exact e j hj
  · have w : ∀ x : UInt8, x.toNat.testBit j = false := fun x => Nat.testBit_lt_two_pow (Nat.lt_of_lt_of_le x.toNat_lt (Nat.pow_le_pow_right (by decide) (by omega) : 2 ^ 8 ≤ 2 ^ j))
    rw [w, w]

/-- Does a filter have a key? -/
def may (f k : List UInt8) : Bool := !f.isEmpty && (List.range 6).all fun n => bit f (pr (hash k) (8 * f.length) n)
theorem may_iff (f k : List UInt8) : may f k = true ↔ f ≠ [] ∧ ∀ n, n < 6 → bit f (pr (hash k) (8 * f.length) n) = true := by
  unfold may
  rw [Bool.and_eq_true, List.all_eq_true]
  refine and_congr (by cases f <;> simp) ⟨fun h n hn => h n (List.mem_range.2 hn), fun h n hn => h n (List.mem_range.1 hn)⟩
theorem may_mk {ks : List (List UInt8)} {k : List UInt8} (h : k ∈ ks) : may (mk ks) k = true := by
  rw [may_iff]
  refine ⟨fun e => ?_, fun n hn => ?_⟩
  · have := mk_length ks; rw [e] at this; have := size_pos ks.length; simp at *; omega
  · rw [mk_length, bit_mk]; exact ⟨k, h, n, hn, rfl⟩
/-- Two rows of keys with the same keys, and as many, have one filter. -/
theorem mk_same {a b : List (List UInt8)} (hl : a.length = b.length) (h : ∀ k, k ∈ a ↔ k ∈ b) : mk a = mk b := by
  refine bits_ext (by rw [mk_length, mk_length, hl]) fun i => ?_
  rw [Bool.eq_iff_iff, bit_mk, bit_mk, hl]
  simp only [h]
theorem mk_sub {a b : List (List UInt8)} (hl : a.length = b.length) (h : ∀ k ∈ a, k ∈ b) (i : Nat) (hi : bit (mk a) i = true) : bit (mk b) i = true := by
  rw [bit_mk] at hi ⊢
  obtain ⟨k, hk, n, hn, e⟩ := hi
  exact ⟨k, h k hk, n, hn, by rw [e, hl]⟩

end Go.Proofs.Ytnlfajikciijjaa.Bl
