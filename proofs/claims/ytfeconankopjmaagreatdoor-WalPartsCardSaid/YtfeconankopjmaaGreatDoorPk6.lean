/- Texts on the program's own functions, several in one: NnMath. -/
import Derived.Lib.ItoaNum
import Derived.Lib.ParseIntBCases

/- Names by numbers: plain functions on bytes. -/
namespace Go.Proofs.YtfeconankopjmaaGreatDoor.Nn
open Go

/-- The last j digits of n. -/
def low (n : Nat) : Nat → List UInt8
  | 0 => []
  | j + 1 => Lib.dg n j :: low n j
theorem low_length (n : Nat) : ∀ j, (low n j).length = j
  | 0 => rfl
  | j + 1 => by rw [low, List.length_cons, low_length n j]
theorem low_eq (n : Nat) : ∀ m, low n m = (List.range m).map fun t => Lib.dg n (m - 1 - t)
  | 0 => rfl
  | m + 1 => by
    rw [low, low_eq n m, List.range_succ_eq_map, List.map_cons, List.map_map]
    refine List.cons_eq_cons.2 ⟨rfl, List.map_congr_left fun t _ => ?_⟩
    show _ = Lib.dg n (m + 1 - 1 - (t + 1))
    rw [show m - 1 - t = m + 1 - 1 - (t + 1) by omega]
theorem low_dec (n : Nat) : low n (Lib.nDigits n) = Lib.decDigits n := by rw [low_eq, Lib.decDigits_eq]
theorem dg_zero {n j : Nat} (h : n < 10 ^ j) : Lib.dg n j = 48 := by
  unfold Lib.dg
  rw [Nat.div_eq_of_lt h]
  rfl
theorem low_pad (n : Nat) : ∀ k, low n (Lib.nDigits n + k) = List.replicate k 48 ++ Lib.decDigits n
  | 0 => by simp [low_dec]
  | k + 1 => by
    rw [← Nat.add_assoc, low, low_pad n k, List.replicate_succ, List.cons_append]
    rw [dg_zero (Nat.lt_of_lt_of_le (Lib.lt_pow_nDigits n) (Nat.pow_le_pow_right (by omega) (by omega)))]
theorem dg_nat (n j : Nat) : (Lib.dg n j).toNat = 48 + n / 10 ^ j % 10 := by
  unfold Lib.dg
  have h : n / 10 ^ j % 10 < 10 := Nat.mod_lt _ (by omega)
  rw [UInt8.toNat_ofNat']
  omega
/-- The digits behind the point. -/
def digs (n : Nat) : List UInt8 := low n (max 8 (Lib.nDigits n))
theorem digs_eq (n : Nat) : digs n = List.replicate (8 - (Lib.decDigits n).length) 48 ++ Lib.decDigits n := by
  unfold digs
  rw [Lib.decDigits_length, show max 8 (Lib.nDigits n) = Lib.nDigits n + (8 - Lib.nDigits n) by omega, low_pad]
def name (w : List UInt8) (n : Nat) : List UInt8 := w ++ 46 :: digs n
theorem mod_pow_succ (n j : Nat) : n % 10 ^ (j + 1) = n / 10 ^ j % 10 * 10 ^ j + n % 10 ^ j := by
  rw [Nat.pow_succ, Nat.mod_mul, Nat.mul_comm, Nat.add_comm]
theorem parse_low (M : Nat) (hM : M ≤ 18446744073709551615) (n : Nat) : ∀ j a, a * 10 ^ j + n % 10 ^ j ≤ M → Lib.parseUintM M a (low n j) = .ok (a * 10 ^ j + n % 10 ^ j)
  | 0, a, h => by simp [low, Lib.parseUintM, Nat.mod_one]
  | j + 1, a, h => by
    have hd : n / 10 ^ j % 10 < 10 := Nat.mod_lt _ (by omega)
    have hp : 1 ≤ 10 ^ j := Nat.pow_pos (by omega)
    have e : a * 10 ^ (j + 1) + n % 10 ^ (j + 1) = (a * 10 + n / 10 ^ j % 10) * 10 ^ j + n % 10 ^ j := by
      rw [mod_pow_succ, Nat.add_mul, Nat.pow_succ, Nat.mul_comm (10 ^ j) 10, ← Nat.mul_assoc, Nat.add_assoc]
    have hle : a * 10 + n / 10 ^ j % 10 ≤ M := by
      refine Nat.le_trans ?_ h
      rw [e]
      exact Nat.le_trans (Nat.le_mul_of_pos_right _ hp) (Nat.le_add_right _ _)
    rw [low, Lib.parseUintM, dg_nat, if_pos (by omega), if_neg (by omega), if_neg (by omega), show 48 + n / 10 ^ j % 10 - 48 = n / 10 ^ j % 10 by omega, e]
    exact parse_low M hM n j _ (by rw [← e]; exact h)
theorem digs_ne (n : Nat) : digs n ≠ [] := by
  intro h
  have := congrArg List.length h
  rw [digs, low_length] at this
  simp at this
theorem parse_digs {n : Nat} (h : n < 18446744073709551616) : Lib.parseUintB 64 (digs n) = .ok n := by
  unfold Lib.parseUintB
  rw [if_neg (digs_ne n)]
  have hm : n % 10 ^ (max 8 (Lib.nDigits n)) = n := Nat.mod_eq_of_lt (Nat.lt_of_lt_of_le (Lib.lt_pow_nDigits n) (Nat.pow_le_pow_right (by omega) (by omega)))
  have := parse_low (2 ^ 64 - 1) (by decide) n (max 8 (Lib.nDigits n)) 0 (by rw [hm]; omega)
  rw [hm, Nat.zero_mul, Nat.zero_add] at this
  exact this
/-- What is behind a word and a point. -/
def cut (w s : List UInt8) : Option (List UInt8) := if w ++ [46] <+: s then some (s.drop (w.length + 1)) else none
/-- The number of a name. -/
def num (w s : List UInt8) : Option Nat := match cut w s with
  | none => none
  | some d => match Lib.parseUintB 64 d with
    | .ok n => if name w n = s then some n else none
    | _ => none
theorem num_name (w : List UInt8) {n : Nat} (h : n < 18446744073709551616) : num w (name w n) = some n := by
  unfold num cut
  have hp : w ++ [46] <+: name w n := ⟨digs n, by simp [name]⟩
  have hd : (name w n).drop (w.length + 1) = digs n := by
    simp [name, List.drop_append]
  rw [if_pos hp, hd]
  simp only [parse_digs h, if_true]
theorem num_some {w s : List UInt8} {n : Nat} (h : num w s = some n) : s = name w n ∧ n < 18446744073709551616 := by
  unfold num at h
  split at h
  · cases h
  · rename_i d hd
    split at h
    · rename_i m hm
      split at h
      · rename_i he
        cases h
        refine ⟨he.symm, ?_⟩
        have := Lib.parseUintB_le hm
        omega
      · cases h
    · cases h

/-- The document's way: the digits' number, wrapped round at 2^64. -/
def rdv : Nat → List UInt8 → Option Nat
  | a, [] => some a
  | a, c :: r => if 48 ≤ c.toNat ∧ c.toNat ≤ 57 then rdv ((10 * a + (c.toNat - 48)) % 18446744073709551616) r else none
def numR (w s : List UInt8) : Option Nat :=
  if s.length < w.length + 9 ∨ w.length + 21 < s.length then none else match rdv 0 (s.drop (w.length + 1)) with
  | none => none
  | some n => if name w n = s then some n else none
theorem rdv_lt : ∀ (l : List UInt8) (a n : Nat), a < 18446744073709551616 → rdv a l = some n → n < 18446744073709551616
  | [], a, n, ha, h => by simp only [rdv, Option.some.injEq] at h; omega
  | c :: r, a, n, ha, h => by
    rw [rdv] at h
    split at h
    · exact rdv_lt r _ n (Nat.mod_lt _ (by omega)) h
    · cases h
theorem rdv_low (n : Nat) : ∀ j a, a * 10 ^ j + n % 10 ^ j < 18446744073709551616 → rdv a (low n j) = some (a * 10 ^ j + n % 10 ^ j)
  | 0, a, h => by simp [low, rdv, Nat.mod_one]
  | j + 1, a, h => by
    have hd : n / 10 ^ j % 10 < 10 := Nat.mod_lt _ (by omega)
    have hp : 1 ≤ 10 ^ j := Nat.pow_pos (by omega)
    have e : a * 10 ^ (j + 1) + n % 10 ^ (j + 1) = (a * 10 + n / 10 ^ j % 10) * 10 ^ j + n % 10 ^ j := by
      rw [mod_pow_succ, Nat.add_mul, Nat.pow_succ, Nat.mul_comm (10 ^ j) 10, ← Nat.mul_assoc, Nat.add_assoc]
    have hle : a * 10 + n / 10 ^ j % 10 < 18446744073709551616 := by
      refine Nat.lt_of_le_of_lt ?_ h
      rw [e]
      exact Nat.le_trans (Nat.le_mul_of_pos_right _ hp) (Nat.le_add_right _ _)
    rw [low, rdv, dg_nat, if_pos (by omega), show (10 * a + (48 + n / 10 ^ j % 10 - 48)) % 18446744073709551616 = a * 10 + n / 10 ^ j % 10 by omega, e]
    exact rdv_low n j _ (by rw [← e]; exact h)
theorem nDigits_le : ∀ (k n : Nat), n < 10 ^ (k + 1) → Lib.nDigits n ≤ k + 1
  | 0, n, h => by rw [Lib.nDigits_small (by simpa using h)]; omega
  | k + 1, n, h => by
    by_cases h1 : n < 10
    · rw [Lib.nDigits_small h1]; omega
    · rw [Lib.nDigits_big h1]
      have := nDigits_le k (n / 10) (Nat.div_lt_of_lt_mul (by rw [Nat.pow_succ] at h; omega))
      omega
theorem digs_length {n : Nat} (h : n < 18446744073709551616) : 8 ≤ (digs n).length ∧ (digs n).length ≤ 20 := by
  have := nDigits_le 19 n (Nat.lt_of_lt_of_le h (by decide))
  rw [digs, low_length]
  omega
theorem numR_eq (w s : List UInt8) : numR w s = num w s := by
  cases h : num w s with
  | some n =>
    obtain ⟨rfl, hn⟩ := num_some h
    have hl := digs_length hn
    have hlen : (name w n).length = w.length + 1 + (digs n).length := by simp [name]; omega
    have hd : (name w n).drop (w.length + 1) = digs n := by simp [name, List.drop_append]
    have hm : n % 10 ^ (max 8 (Lib.nDigits n)) = n := Nat.mod_eq_of_lt (Nat.lt_of_lt_of_le (Lib.lt_pow_nDigits n) (Nat.pow_le_pow_right (by omega) (by omega)))
    have hr : rdv 0 (digs n) = some n := by
      have := rdv_low n (max 8 (Lib.nDigits n)) 0 (by rw [hm]; omega)
      rw [hm, Nat.zero_mul, Nat.zero_add] at this
      exact this
    unfold numR
    rw [if_neg (by omega), hd]
    simp only [hr, if_true]
  | none =>
    unfold numR
    split
    · rfl
    · split
      · rfl
      · rename_i n hn
        split
        · rename_i he
          have := num_name w (rdv_lt _ 0 n (by omega) hn)
          rw [he, h] at this
          cases this
        · rfl

end Go.Proofs.YtfeconankopjmaaGreatDoor.Nn
