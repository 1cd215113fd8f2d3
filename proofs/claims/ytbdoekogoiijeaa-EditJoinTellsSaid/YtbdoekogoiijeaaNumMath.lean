/- Plain facts on numbers as bytes: no program is named here. -/
import Derived.WalkKit
namespace Go.Proofs.Ytbdoekogoiijeaa.Nm

/-- The number that bytes are, the greatest first. -/
def val (l : List UInt8) : Nat := l.foldl (fun a b => 256 * a + b.toNat) 0
/-- The last w bytes of a number, the greatest first. -/
def big : Nat → Nat → List UInt8
  | _, 0 => []
  | n, w + 1 => big (n / 256) w ++ [UInt8.ofNat n]
/-- How many bytes a number below 2^64 needs. -/
def wid (n : Nat) : Nat :=
  if n < 1 then 0 else if n < 256 then 1 else if n < 65536 then 2 else if n < 16777216 then 3 else if n < 4294967296 then 4
  else if n < 1099511627776 then 5 else if n < 281474976710656 then 6 else if n < 72057594037927936 then 7 else 8
/-- A number's row. -/
def row (n : Nat) : List UInt8 := if n < 248 then [UInt8.ofNat n] else UInt8.ofNat (247 + wid n) :: big n (wid n)
/-- The number whose row a text begins with, and that row's length. -/
def rv : List UInt8 → Option (Nat × Nat)
  | [] => none
  | b :: r => if b.toNat < 248 then some (b.toNat, 1)
    else if r.length < b.toNat - 247 then none
    else if val (r.take (b.toNat - 247)) < 248 ∨ wid (val (r.take (b.toNat - 247))) ≠ b.toNat - 247 then none
    else some (val (r.take (b.toNat - 247)), 1 + (b.toNat - 247))

theorem val_nil : val [] = 0 := rfl
theorem val_snoc (l : List UInt8) (b : UInt8) : val (l ++ [b]) = 256 * val l + b.toNat := by simp [val, List.foldl_append]
theorem val_acc : ∀ (l : List UInt8) (a : Nat), l.foldl (fun a b => 256 * a + b.toNat) a = a * 256 ^ l.length + val l
  | [], a => by simp [val]
  | b :: l, a => by
    have h1 := val_acc l (256 * a + b.toNat)
    have h2 := val_acc l (256 * 0 + b.toNat)
    rw [List.foldl_cons, h1]
    show _ = a * 256 ^ (l.length + 1) + l.foldl _ (256 * 0 + b.toNat)
    rw [h2, Nat.pow_succ]
    have e1 : (256 * a + b.toNat) * 256 ^ l.length = 256 * a * 256 ^ l.length + b.toNat * 256 ^ l.length := Nat.add_mul ..
    have e2 : a * (256 ^ l.length * 256) = 256 * a * 256 ^ l.length := by rw [Nat.mul_comm (256 ^ l.length), ← Nat.mul_assoc, Nat.mul_comm a]
    rw [e1, e2, Nat.mul_zero, Nat.zero_add]
    omega
theorem val_cons (b : UInt8) (l : List UInt8) : val (b :: l) = b.toNat * 256 ^ l.length + val l := by
  have := val_acc l (256 * 0 + b.toNat)
  show l.foldl _ (256 * 0 + b.toNat) = _
  rw [this]; simp
theorem val_lt : ∀ l : List UInt8, val l < 256 ^ l.length
  | [] => by simp [val]
  | b :: l => by
    rw [val_cons, List.length_cons, Nat.pow_succ]
    have h := val_lt l
    have hb : b.toNat + 1 ≤ 256 := by have := b.toNat_lt; omega
    have : (b.toNat + 1) * 256 ^ l.length ≤ 256 * 256 ^ l.length := Nat.mul_le_mul_right _ hb
    rw [Nat.add_mul] at this
    rw [Nat.mul_comm (256 ^ l.length)]
    omega
theorem big_length : ∀ (w n : Nat), (big n w).length = w
  | 0, _ => rfl
  | w + 1, n => by simp [big, big_length w]
theorem toNat_ofNat (n : Nat) : (UInt8.ofNat n).toNat = n % 256 := UInt8.toNat_ofNat' ..
theorem val_big : ∀ (w n : Nat), val (big n w) = n % 256 ^ w
  | 0, n => by simp [big, val, Nat.mod_one]
  | w + 1, n => by
    rw [big, val_snoc, val_big w, toNat_ofNat, Nat.pow_succ, Nat.mul_comm (256 ^ w), Nat.mod_mul]
    omega
theorem big_val : ∀ (k : Nat) (l : List UInt8), l.length = k → big (val l) k = l
  | 0, l, h => by rw [List.eq_nil_of_length_eq_zero h]; rfl
  | k + 1, l, h => by
    have hne : l ≠ [] := by intro e; rw [e] at h; simp at h
    have hl := List.dropLast_concat_getLast hne
    have hd : l.dropLast.length = k := by simp [h]
    rw [← hl, val_snoc, big]
    have hb := (l.getLast hne).toNat_lt
    have e1 : (256 * val l.dropLast + (l.getLast hne).toNat) / 256 = val l.dropLast := by omega
    rw [e1, big_val k _ hd]
    congr 1
    congr 1
    apply UInt8.toNat.inj
    rw [toNat_ofNat]
    omega
theorem big_inj {w a b : Nat} (ha : a < 256 ^ w) (hb : b < 256 ^ w) (h : big a w = big b w) : a = b := by
  have := congrArg val h
  rw [val_big, val_big, Nat.mod_eq_of_lt ha, Nat.mod_eq_of_lt hb] at this
  exact this

theorem wid_le8 (n : Nat) : wid n ≤ 8 := by
  unfold wid
  (repeat' split) <;> omega
theorem wid_le {n w : Nat} (hn : n < 18446744073709551616) (hw : w ≤ 8) : wid n ≤ w ↔ n < 256 ^ w := by
  have : w = 0 ∨ w = 1 ∨ w = 2 ∨ w = 3 ∨ w = 4 ∨ w = 5 ∨ w = 6 ∨ w = 7 ∨ w = 8 := by omega
  rcases this with rfl | rfl | rfl | rfl | rfl | rfl | rfl | rfl | rfl <;> unfold wid <;> simp only [Nat.reducePow] <;> (repeat' split) <;> omega
theorem lt_wid {n : Nat} (hn : n < 18446744073709551616) : n < 256 ^ wid n := (wid_le hn (wid_le8 n)).1 (Nat.le_refl _)
theorem wid_pos {n : Nat} (h : 0 < n) : 0 < wid n := by
  unfold wid
  (repeat' split) <;> omega
theorem wid_mono {a b : Nat} (hb : b < 18446744073709551616) (h : a ≤ b) : wid a ≤ wid b :=
  (wid_le (by omega) (wid_le8 b)).2 (Nat.lt_of_le_of_lt h (lt_wid hb))

theorem row_short {n : Nat} (h : n < 248) : row n = [UInt8.ofNat n] := by unfold row; rw [if_pos h]
theorem row_long {n : Nat} (h : ¬ n < 248) : row n = UInt8.ofNat (247 + wid n) :: big n (wid n) := by unfold row; rw [if_neg h]
theorem row_length (n : Nat) : 1 ≤ (row n).length ∧ (row n).length ≤ 9 := by
  by_cases h : n < 248
  · rw [row_short h]; simp
  · have := wid_le8 n
    rw [row_long h]; simp only [List.length_cons, big_length]; omega
theorem byte_wid (n : Nat) : (UInt8.ofNat (247 + wid n)).toNat = 247 + wid n := by
  have := wid_le8 n
  rw [toNat_ofNat]; omega

/-- A row, read again, whatever stands behind it. -/
theorem rv_row {n : Nat} (hn : n < 18446744073709551616) (t : List UInt8) : rv (row n ++ t) = some (n, (row n).length) := by
  by_cases h : n < 248
  · rw [row_short h]
    have e : (UInt8.ofNat n).toNat = n := by rw [toNat_ofNat]; omega
    simp [rv, e, h]
  · have hw := wid_pos (n := n) (by omega)
    have hb : (UInt8.ofNat (247 + wid n)).toNat - 247 = wid n := by rw [byte_wid]; omega
    have hc : ¬ (UInt8.ofNat (247 + wid n)).toNat < 248 := by rw [byte_wid]; omega
    have ht : (big n (wid n) ++ t).take (wid n) = big n (wid n) := List.take_left' (big_length _ _)
    have hv : val (big n (wid n)) = n := by rw [val_big, Nat.mod_eq_of_lt (lt_wid hn)]
    rw [row_long h, List.cons_append, rv, if_neg hc, hb, ht, hv, if_neg (by simp [big_length]), if_neg (by omega)]
    simp [big_length]; omega

/-- What is read is what its row is. -/
theorem row_rv {l : List UInt8} {n k : Nat} (h : rv l = some (n, k)) : 1 ≤ k ∧ k ≤ l.length ∧ row n = l.take k ∧ n < 18446744073709551616 := by
  cases l with
  | nil => cases h
  | cons b r =>
    rw [rv] at h
    split at h
    · rename_i hb
      simp only [Option.some.injEq, Prod.mk.injEq] at h
      obtain ⟨rfl, rfl⟩ := h
      have e : UInt8.ofNat b.toNat = b := by simp
      rw [row_short hb, e]
      simp
      omega
    · rename_i hb
      split at h
      · cases h
      · rename_i hl
        split at h
        · cases h
        · rename_i hc
          simp only [Option.some.injEq, Prod.mk.injEq] at h
          obtain ⟨rfl, rfl⟩ := h
          have hb2 := b.toNat_lt
          have hlen : (r.take (b.toNat - 247)).length = b.toNat - 247 := by rw [List.length_take]; omega
          have hlt := val_lt (r.take (b.toNat - 247))
          rw [hlen] at hlt
          have h8 : 256 ^ (b.toNat - 247) ≤ 256 ^ 8 := Nat.pow_le_pow_right (by omega) (by omega)
          have hcw : wid (val (r.take (b.toNat - 247))) = b.toNat - 247 := by
            rcases Nat.lt_or_ge (val (r.take (b.toNat - 247))) 248 with hx | hx
            · exact absurd (Or.inl hx) hc
            · exact Classical.byContradiction fun hne => hc (Or.inr hne)
          have hge : ¬ val (r.take (b.toNat - 247)) < 248 := fun hx => hc (Or.inl hx)
          refine ⟨by omega, by simp; omega, ?_, by have : (256 : Nat) ^ 8 = 18446744073709551616 := by decide
                                                   omega⟩
          rw [row_long hge, hcw, big_val _ _ hlen]
          have e : UInt8.ofNat (247 + (b.toNat - 247)) = b := by
            have : 247 + (b.toNat - 247) = b.toNat := by omega
            rw [this]; simp
          rw [e, Nat.add_comm 1, List.take_succ_cons]

/-- Where two texts part: the lesser byte is the first one's. -/
def Parts (x y : List UInt8) : Prop := ∃ p c d u v, x = p ++ c :: u ∧ y = p ++ d :: v ∧ c.toNat < d.toNat

theorem parts_cons {x y : List UInt8} (b : UInt8) (h : Parts x y) : Parts (b :: x) (b :: y) := by
  obtain ⟨p, c, d, u, v, rfl, rfl, h⟩ := h
  exact ⟨b :: p, c, d, u, v, rfl, rfl, h⟩

theorem parts_of_val : ∀ (x y : List UInt8), x.length = y.length → val x < val y → Parts x y
  | [], [], _, h => by simp [val] at h
  | [], _ :: _, h, _ => by simp at h
  | _ :: _, [], h, _ => by simp at h
  | b :: x, c :: y, hl, h => by
    have hl' : x.length = y.length := by simpa using hl
    rw [val_cons, val_cons, hl'] at h
    have hx := val_lt x
    have hy := val_lt y
    rw [hl'] at hx
    rcases Nat.lt_trichotomy b.toNat c.toNat with hb | hb | hb
    · exact ⟨[], b, c, x, y, rfl, rfl, hb⟩
    · obtain rfl : b = c := UInt8.toNat.inj hb
      exact parts_cons b (parts_of_val x y hl' (by omega))
    · exfalso
      have : (c.toNat + 1) * 256 ^ y.length ≤ b.toNat * 256 ^ y.length := Nat.mul_le_mul_right _ hb
      rw [Nat.add_mul] at this
      omega

theorem bytesLess_parts {x y : List UInt8} (h : Parts x y) (s t : List UInt8) : Op.bytesLess (x ++ s) (y ++ t) = true ∧ Op.bytesLess (y ++ t) (x ++ s) = false := by
  obtain ⟨p, c, d, u, v, rfl, rfl, h⟩ := h
  have hc : c < d := UInt8.lt_iff_toNat_lt.2 h
  have hd : ¬ d < c := fun x => by have := UInt8.lt_iff_toNat_lt.1 x; omega
  have he : (d == c) = false := by simp; intro e; rw [e] at h; omega
  induction p with
  | nil => simp [Op.bytesLess, hc, hd, he]
  | cons b p ih =>
    have hb : ¬ b < b := fun x => by have := UInt8.lt_iff_toNat_lt.1 x; omega
    simp only [List.cons_append, Op.bytesLess, hb, decide_false, beq_self_eq_true, Bool.true_and, Bool.false_or]
    exact ih

theorem bytesLess_self : ∀ x : List UInt8, Op.bytesLess x x = false
  | [] => rfl
  | b :: x => by
    have hb : ¬ b < b := fun x => by have := UInt8.lt_iff_toNat_lt.1 x; omega
    simp [Op.bytesLess, hb, bytesLess_self x]

/-- Texts of one length stand as their numbers do. -/
theorem bytesLess_val {x y : List UInt8} (h : x.length = y.length) : Op.bytesLess x y = decide (val x < val y) := by
  rcases Nat.lt_trichotomy (val x) (val y) with hv | hv | hv
  · have := (bytesLess_parts (parts_of_val x y h hv) [] []).1
    simp only [List.append_nil] at this
    rw [this]; simp [hv]
  · have e : x = y := by rw [← big_val _ x rfl, ← big_val _ y rfl, h, hv]
    rw [e, bytesLess_self]; simp
  · have := (bytesLess_parts (parts_of_val y x h.symm hv) [] []).2
    simp only [List.append_nil] at this
    rw [this]; simp; omega

/-- Rows part where numbers do. -/
theorem parts_row {a b : Nat} (ha : a < b) (hb : b < 18446744073709551616) : Parts (row a) (row b) := by
  by_cases h1 : b < 248
  · rw [row_short h1, row_short (by omega)]
    refine ⟨[], _, _, [], [], rfl, rfl, ?_⟩
    rw [toNat_ofNat, toNat_ofNat]; omega
  · rw [row_long h1]
    have hw := wid_pos (n := b) (by omega)
    have hw8 := wid_le8 b
    by_cases h2 : a < 248
    · rw [row_short h2]
      refine ⟨[], _, _, [], _, rfl, rfl, ?_⟩
      rw [toNat_ofNat, toNat_ofNat]; omega
    · rw [row_long h2]
      have hm := wid_mono hb (Nat.le_of_lt ha)
      by_cases h3 : wid a = wid b
      · rw [h3]
        refine parts_cons _ (parts_of_val _ _ (by rw [big_length, big_length]) ?_)
        have hlb := lt_wid hb
        rw [val_big, val_big, Nat.mod_eq_of_lt hlb, Nat.mod_eq_of_lt (by omega)]
        exact ha
      · refine ⟨[], _, _, _, _, rfl, rfl, ?_⟩
        rw [byte_wid, byte_wid]; omega

end Go.Proofs.Ytbdoekogoiijeaa.Nm
