/- Entries' places, as plain rows of bytes: they rise as entries do. No program is named here. -/
import Derived.Test.YtmdnmabbphnhaaaSkMath
import Derived.Test.YtmdnmabbphnhaaaBnNumMath
namespace Go.Proofs.Ytmdnmabbphnhaaa.Mm
open Go Go.RowKit Go.Proofs.Ytmdnmabbphnhaaa.Sk

/-- A byte of a text, as it stands in a key; a text. -/
def esc1 (b : UInt8) : Str := if b = 0 then [0, 255] else [b]
def esc (l : Str) : Str := l.flatMap esc1
theorem esc_cons (b : UInt8) (l : Str) : esc (b :: l) = esc1 b ++ esc l := rfl
/-- The place of a key's version. -/
def place (k : Str) (q : Nat) : Str := 2 :: (esc k ++ [0, 1] ++ Bn.Nm.big (18446744073709551615 - q) 8)

theorem bb_same (p : Str) : ∀ (u v : Str), bytesBefore (p ++ u) (p ++ v) = bytesBefore u v := by
  induction p with
  | nil => intro u v; rfl
  | cons b p ih =>
    intro u v
    simp only [List.cons_append, bytesBefore, beq_self_eq_true, Bool.true_and, ih]
    have : ¬ b < b := fun x => by have := UInt8.lt_iff_toNat_lt.1 x; omega
    simp [this]
theorem bb_cons (a b : UInt8) (r s : Str) : bytesBefore (a :: r) (b :: s) = (decide (a < b) || (a == b && bytesBefore r s)) := rfl
theorem u8_lt_of_ne {b : UInt8} (h : b ≠ 0) : (0 : UInt8) < b := by
  rw [UInt8.lt_iff_toNat_lt]
  have : b.toNat ≠ 0 := fun e => h (UInt8.toNat.inj (by rw [e]; rfl))
  show 0 < b.toNat
  omega
/-- Texts that are ahead of one another are so behind their marks, too. -/
theorem esc_lt : ∀ {a b : Str}, bytesBefore a b = true → ∀ s t : Str, bytesBefore (esc a ++ 0 :: 1 :: s) (esc b ++ 0 :: 1 :: t) = true
  | [], [], h, s, t => by cases h
  | _ :: _, [], h, s, t => by cases h
  | [], c :: b, _, s, t => by
    rw [esc_cons]
    unfold esc1
    by_cases hc : c = 0
    · rw [if_pos hc]
      show bytesBefore (0 :: 1 :: s) (0 :: 255 :: (esc b ++ 0 :: 1 :: t)) = true
      rw [bb_cons, bb_cons]
      simp
    · rw [if_neg hc]
      show bytesBefore (0 :: 1 :: s) (c :: (esc b ++ 0 :: 1 :: t)) = true
      rw [bb_cons, decide_eq_true (u8_lt_of_ne hc)]
      rfl
  | c :: a, d :: b, h, s, t => by
    rw [bb_cons] at h
    rw [esc_cons, esc_cons]
    by_cases e : c = d
    · subst e
      rw [List.append_assoc, List.append_assoc, bb_same]
      refine esc_lt ?_ s t
      have : ¬ c < c := fun x => by have := UInt8.lt_iff_toNat_lt.1 x; omega
      simpa [this] using h
    · have hlt : c < d := by
        simpa [e] using h
      have hd : d ≠ 0 := fun e2 => by
        subst e2
        have := UInt8.lt_iff_toNat_lt.1 hlt
        exact absurd this (Nat.not_lt_zero _)
      unfold esc1
      rw [if_neg hd]
      by_cases hc : c = 0
      · rw [if_pos hc]
        show bytesBefore (0 :: _) (d :: _) = true
        rw [bb_cons, decide_eq_true (u8_lt_of_ne hd)]
        rfl
      · rw [if_neg hc]
        show bytesBefore (c :: _) (d :: _) = true
        rw [bb_cons, decide_eq_true hlt]
        rfl
theorem place_cat (k : Str) (q : Nat) : place k q = 2 :: (esc k ++ 0 :: 1 :: Bn.Nm.big (18446744073709551615 - q) 8) := by
  unfold place
  simp
theorem place_key_lt {a b : Str} (h : bytesBefore a b = true) (q t : Nat) : bytesBefore (place a q) (place b t) = true := by
  rw [place_cat, place_cat, bb_cons, esc_lt h]
  simp
theorem bytesLess_bb : ∀ a b : List UInt8, Op.bytesLess a b = bytesBefore a b
  | [], [] => rfl
  | [], _ :: _ => rfl
  | _ :: _, [] => rfl
  | a :: r, b :: s => by
    have := bytesLess_bb r s
    simp only [Op.bytesLess, bytesBefore, this]
theorem place_seq (k : Str) {q t : Nat} (hq : q < 18446744073709551616) (ht : t < 18446744073709551616) : bytesBefore (place k q) (place k t) = decide (t < q) := by
  have e : ∀ n, place k n = (2 :: (esc k ++ [0, 1])) ++ Bn.Nm.big (18446744073709551615 - n) 8 := fun n => rfl
  rw [e, e, bb_same, ← bytesLess_bb, Bn.Nm.bytesLess_val (by rw [Bn.Nm.big_length, Bn.Nm.big_length]), Bn.Nm.val_big, Bn.Nm.val_big, Nat.mod_eq_of_lt (by omega), Nat.mod_eq_of_lt (by omega)]
  congr 1
  apply propext
  constructor <;> intro h <;> omega
/-- The order of entries. -/
def ahead (a : Str) (q : Nat) (b : Str) (t : Nat) : Bool := bytesBefore a b || (a == b && decide (t < q))
theorem place_lt (a b : Str) {q t : Nat} (hq : q < 18446744073709551616) (ht : t < 18446744073709551616) : bytesBefore (place a q) (place b t) = ahead a q b t := by
  unfold ahead
  by_cases e : a = b
  · subst e
    rw [place_seq a hq ht]
    have : bytesBefore a a = false := Bool.eq_false_iff.2 (lt_irr a)
    simp [this]
  · have hf : (a == b) = false := beq_false_of_ne e
    rw [hf, Bool.false_and, Bool.or_false]
    cases h : bytesBefore a b with
    | true => exact place_key_lt h q t
    | false =>
      have h2 := (lt_total e).resolve_left (by rw [h]; decide)
      exact lt_asym (place_key_lt h2 t q)
theorem place_inj {a b : Str} {q t : Nat} (hq : q < 18446744073709551616) (ht : t < 18446744073709551616) (h : place a q = place b t) : a = b ∧ q = t := by
  have h1 := place_lt a b hq ht
  have h2 := place_lt b a ht hq
  rw [h] at h1 h2
  have hz : bytesBefore (place b t) (place b t) = false := Bool.eq_false_iff.2 (lt_irr _)
  rw [hz] at h1 h2
  unfold ahead at h1 h2
  by_cases e : a = b
  · subst e
    refine ⟨rfl, ?_⟩
    simp at h1 h2
    omega
  · exfalso
    rcases lt_total e with h3 | h3
    · rw [h3] at h1; cases h1
    · rw [h3] at h2; cases h2
theorem esc_length (l : Str) : (esc l).length ≤ 2 * l.length := by
  induction l with
  | nil => simp [esc]
  | cons b l ih =>
    have : (esc1 b).length ≤ 2 := by unfold esc1; split <;> simp
    simp only [esc, List.flatMap_cons, List.length_append, List.length_cons] at ih ⊢
    omega
theorem place_length (k : Str) (q : Nat) : (place k q).length ≤ 2 * k.length + 11 := by
  have := esc_length k
  unfold place
  simp only [List.length_cons, List.length_append, Bn.Nm.big_length, List.length_nil]
  omega
end Go.Proofs.Ytmdnmabbphnhaaa.Mm
