/- Batches as plain lists: their bytes, what is read of bytes, and that each is read of its own bytes alone. -/
import Derived.Test.YtohfjibhfbcanaaNumText
namespace Go.Proofs.Ytohfjibhfbcanaa

/-- An operation. -/
structure Ob where
  key : ByteArray
  val : ByteArray
  gone : Bool

def obd : Ob := ⟨ByteArray.empty, ByteArray.empty, false⟩

namespace Bt

def txt (s : ByteArray) : List UInt8 := Nm.row s.size ++ s.data.toList
def obRow (o : Ob) : List UInt8 := if o.gone = true then 1 :: txt o.key else 0 :: (txt o.key ++ txt o.val)
def longOb (o : Ob) : Bool := decide (64 < o.key.size) || decide (512 < o.val.size)
def badOb (o : Ob) : Bool := decide (o.key.size = 0) || (o.gone && !decide (o.val.size = 0))
def isLong (ops : List Ob) : Bool := decide (16 < ops.length) || ops.any longOb
def numbered (seq n : Nat) : Bool := decide (n ≠ 0) && decide (1 ≤ seq) && decide (seq + n ≤ 9223372036854775809)
def sound (ops : List Ob) : Bool := !ops.any badOb
def chk (seq : Nat) (ops : List Ob) : Nat := if isLong ops = true then 3 else if (numbered seq ops.length && sound ops) = true then 0 else 1
def encl (seq : Nat) (ops : List Ob) : List UInt8 := Nm.row seq ++ (Nm.row ops.length ++ ops.flatMap obRow)

/-- The operation that a text begins with, if any byte but 1 says that there is a value. -/
def rr : List UInt8 → Option (Ob × Nat)
  | [] => none
  | b :: r => match rt r 64 with
    | none => none
    | some (k, n) => if b = 1 then some (⟨⟨k.toArray⟩, ByteArray.empty, true⟩, 1 + n)
      else match rt (r.drop n) 512 with
        | none => none
        | some (v, m) => some (⟨⟨k.toArray⟩, ⟨v.toArray⟩, false⟩, 1 + n + m)
/-- The operation that a text begins with. -/
def ro : List UInt8 → Option (Ob × Nat)
  | [] => none
  | b :: r => if b = 0 ∨ b = 1 then rr (b :: r) else none
def many (f : List UInt8 → Option (Ob × Nat)) : Nat → List UInt8 → Option (List Ob × Nat)
  | 0, _ => some ([], 0)
  | n + 1, l => match f l with
    | none => none
    | some (o, k) => match many f n (l.drop k) with
      | none => none
      | some (os, m) => some (o :: os, k + m)
def rdl (f : List UInt8 → Option (Ob × Nat)) (l : List UInt8) : Option (Nat × List Ob × Nat) :=
  match Nm.rv l with
  | none => none
  | some (seq, a) => match Nm.rv (l.drop a) with
    | none => none
    | some (n, c) => if 16 < n then none else match many f n (l.drop (a + c)) with
      | none => none
      | some (os, m) => some (seq, os, a + c + m)
def decl (l : List UInt8) : Option (Nat × List Ob) :=
  match rdl ro l with
  | none => none
  | some (s, o, k) => if k = l.length ∧ chk s o = 0 then some (s, o) else none
def declR (l : List UInt8) : Option (Nat × List Ob) :=
  match rdl rr l with
  | none => none
  | some (s, o, _) => if chk s o = 0 ∧ encl s o = l then some (s, o) else none

theorem len (s : ByteArray) : s.data.toList.length = s.size := by simp
theorem txt_length (s : ByteArray) : 1 ≤ (txt s).length ∧ (txt s).length ≤ 9 + s.size := by
  have := Nm.row_length s.size
  unfold txt
  rw [List.length_append, len]
  omega

theorem rt_txt (s : ByteArray) (t : List UInt8) (most : Int) (hm : (s.size : Int) ≤ most) (hs : s.size < 18446744073709551616) : rt (txt s ++ t) most = some (s.data.toList, (txt s).length) := by
  unfold rt txt
  rw [List.append_assoc, Nm.rv_row hs]
  simp only
  rw [if_neg (by simp; omega)]
  simp
theorem txt_rt {l t : List UInt8} {most : Int} {k : Nat} (h : rt l most = some (t, k)) : 1 ≤ k ∧ k ≤ l.length ∧ l.take k = txt ⟨t.toArray⟩ ∧ (t.length : Int) ≤ most := by
  unfold rt at h
  cases hv : Nm.rv l with
  | none => rw [hv] at h; cases h
  | some x =>
    obtain ⟨n, j⟩ := x
    rw [hv] at h
    simp only at h
    split at h
    · cases h
    · rename_i hc
      simp only [Option.some.injEq, Prod.mk.injEq] at h
      obtain ⟨rfl, rfl⟩ := h
      obtain ⟨h1, h2, h3, h4⟩ := Nm.row_rv hv
      have hl : ((l.drop j).take n).length = n := by rw [List.length_take, List.length_drop]; omega
      refine ⟨by omega, by omega, ?_, by rw [hl]; omega⟩
      unfold txt
      have e : (⟨((l.drop j).take n).toArray⟩ : ByteArray).size = n := by
        show ((l.drop j).take n).toArray.size = n
        simpa using hl
      rw [e, h3, List.take_add]

theorem rr_cons (b : UInt8) (r : List UInt8) : rr (b :: r) = match rt r 64 with
    | none => none
    | some (k, n) => if b = 1 then some (⟨⟨k.toArray⟩, ByteArray.empty, true⟩, 1 + n)
      else match rt (r.drop n) 512 with
        | none => none
        | some (v, m) => some (⟨⟨k.toArray⟩, ⟨v.toArray⟩, false⟩, 1 + n + m) := rfl
theorem ro_cons (b : UInt8) (r : List UInt8) : ro (b :: r) = if b = 0 ∨ b = 1 then rr (b :: r) else none := rfl
theorem ro_rr (b : UInt8) (r : List UInt8) (h : b = 0 ∨ b = 1) : ro (b :: r) = rr (b :: r) := by rw [ro_cons, if_pos h]

theorem rr_row (o : Ob) (t : List UInt8) (hl : longOb o = false) (hb : badOb o = false) : rr (obRow o ++ t) = some (o, (obRow o).length) ∧ ro (obRow o ++ t) = rr (obRow o ++ t) := by
  obtain ⟨k, v, g⟩ := o
  simp only [longOb, badOb, Bool.or_eq_false_iff, decide_eq_false_iff_not, Bool.and_eq_false_iff, Bool.not_eq_false', decide_eq_true_eq] at hl hb
  cases g with
  | true =>
    have hv : v.size = 0 := by rcases hb.2 with h | h; · cases h
                               · exact h
    obtain rfl := empty_of_size hv
    have e : obRow ⟨k, ByteArray.empty, true⟩ = 1 :: txt k := rfl
    rw [e, List.cons_append]
    refine ⟨?_, ro_rr _ _ (Or.inr rfl)⟩
    rw [rr_cons, rt_txt k t 64 (by omega) (by omega)]
    simp only [if_true, List.length_cons]
    rw [Nat.add_comm]
  | false =>
    have e : obRow ⟨k, v, false⟩ = 0 :: (txt k ++ txt v) := rfl
    rw [e, List.cons_append]
    refine ⟨?_, ro_rr _ _ (Or.inl rfl)⟩
    rw [rr_cons, List.append_assoc, rt_txt k _ 64 (by omega) (by omega)]
    simp only
    rw [if_neg (by decide), List.drop_left, rt_txt v t 512 (by omega) (by omega)]
    simp only [List.length_cons, List.length_append]
    congr 2
    omega

theorem row_rr {b : UInt8} {r : List UInt8} {o : Ob} {k : Nat} (h : rr (b :: r) = some (o, k)) : 1 ≤ k ∧ k ≤ (b :: r).length ∧ o.gone = decide (b = 1) ∧ (b = 0 ∨ b = 1 → (b :: r).take k = obRow o) ∧ longOb o = false := by
  rw [rr_cons] at h
  cases h1 : rt r 64 with
  | none => rw [h1] at h; cases h
  | some x =>
    obtain ⟨t, n⟩ := x
    rw [h1] at h
    obtain ⟨a1, a2, a3, a4⟩ := txt_rt h1
    have hts : (⟨t.toArray⟩ : ByteArray).size = t.length := by show t.toArray.size = _; simp
    simp only at h
    by_cases hb : b = 1
    · rw [if_pos hb] at h
      simp only [Option.some.injEq, Prod.mk.injEq] at h
      obtain ⟨rfl, rfl⟩ := h
      refine ⟨by omega, by rw [List.length_cons]; omega, by simp [hb], fun _ => ?_, ?_⟩
      · rw [Nat.add_comm, List.take_succ_cons, a3, hb]; rfl
      · simp only [longOb, hts]
        simp; omega
    · rw [if_neg hb] at h
      cases h2 : rt (r.drop n) 512 with
      | none => rw [h2] at h; cases h
      | some y =>
        obtain ⟨v, m⟩ := y
        rw [h2] at h
        obtain ⟨b1, b2, b3, b4⟩ := txt_rt h2
        have hvs : (⟨v.toArray⟩ : ByteArray).size = v.length := by show v.toArray.size = _; simp
        simp only [Option.some.injEq, Prod.mk.injEq] at h
        obtain ⟨rfl, rfl⟩ := h
        rw [List.length_drop] at b2
        refine ⟨by omega, by rw [List.length_cons]; omega, by simp [hb], fun hbb => ?_, ?_⟩
        · have hb0 : b = 0 := by rcases hbb with h | h; · exact h
                                 · exact absurd h hb
          have e : 1 + n + m = n + m + 1 := by omega
          rw [e, List.take_succ_cons, List.take_add, a3, b3, hb0]; rfl
        · simp only [longOb, hts, hvs]
          simp; omega

theorem row_ro {l : List UInt8} {o : Ob} {k : Nat} (h : ro l = some (o, k)) : 1 ≤ k ∧ k ≤ l.length ∧ l.take k = obRow o ∧ longOb o = false := by
  cases l with
  | nil => cases h
  | cons b r =>
    rw [ro_cons] at h
    split at h
    · rename_i hb
      obtain ⟨h1, h2, _, h3, h4⟩ := row_rr h
      exact ⟨h1, h2, h3 hb, h4⟩
    · cases h

theorem many_rows (f : List UInt8 → Option (Ob × Nat)) : ∀ (os : List Ob) (t : List UInt8), (∀ o ∈ os, ∀ u, f (obRow o ++ u) = some (o, (obRow o).length)) → many f os.length (os.flatMap obRow ++ t) = some (os, (os.flatMap obRow).length)
  | [], t, _ => rfl
  | o :: os, t, h => by
    rw [List.length_cons, many, List.flatMap_cons, List.append_assoc, h o (List.mem_cons_self ..)]
    simp only
    rw [List.drop_left, many_rows f os t (fun x hx => h x (List.mem_cons_of_mem _ hx))]
    simp [List.length_append]

theorem rows_many : ∀ (n : Nat) (l : List UInt8) (os : List Ob) (m : Nat), many ro n l = some (os, m) → os.length = n ∧ m ≤ l.length ∧ l.take m = os.flatMap obRow
  | 0, l, os, m, h => by
    simp only [many, Option.some.injEq, Prod.mk.injEq] at h
    obtain ⟨rfl, rfl⟩ := h
    simp
  | n + 1, l, os, m, h => by
    rw [many] at h
    cases h1 : ro l with
    | none => rw [h1] at h; cases h
    | some x =>
      obtain ⟨o, k⟩ := x
      rw [h1] at h
      simp only at h
      cases h2 : many ro n (l.drop k) with
      | none => rw [h2] at h; cases h
      | some y =>
        obtain ⟨os', m'⟩ := y
        rw [h2] at h
        simp only [Option.some.injEq, Prod.mk.injEq] at h
        obtain ⟨rfl, rfl⟩ := h
        obtain ⟨a1, a2, a3, _⟩ := row_ro h1
        obtain ⟨b1, b2, b3⟩ := rows_many n _ _ _ h2
        rw [List.length_drop] at b2
        refine ⟨by simp [b1], by omega, ?_⟩
        rw [List.take_add, a3, b3, List.flatMap_cons]

theorem chk_ok {s : Nat} {ops : List Ob} (h : chk s ops = 0) : ops.length ≤ 16 ∧ (∀ o ∈ ops, longOb o = false ∧ badOb o = false) ∧ 1 ≤ ops.length ∧ 1 ≤ s ∧ s + ops.length ≤ 9223372036854775809 := by
  unfold chk at h
  split at h
  · cases h
  · rename_i hl
    split at h
    · rename_i hn
      simp only [isLong, Bool.or_eq_true, decide_eq_true_eq, not_or, List.any_eq_true, not_exists, not_and, Bool.not_eq_true] at hl
      simp only [numbered, sound, Bool.and_eq_true, decide_eq_true_eq, Bool.not_eq_true', List.any_eq_false, Bool.not_eq_true] at hn
      obtain ⟨⟨⟨n1, n2⟩, n3⟩, n4⟩ := hn
      exact ⟨by omega, fun o ho => ⟨hl.2 o ho, n4 o ho⟩, by omega, n2, n3⟩
    · cases h

/-- A batch that may be, read of its bytes, whatever stands behind. -/
theorem rdl_encl {s : Nat} {ops : List Ob} (h : chk s ops = 0) (t : List UInt8) : rdl ro (encl s ops ++ t) = some (s, ops, (encl s ops).length) ∧ rdl rr (encl s ops ++ t) = some (s, ops, (encl s ops).length) := by
  obtain ⟨h1, h2, h3, h4, h5⟩ := chk_ok h
  have key : ∀ f : List UInt8 → Option (Ob × Nat), (∀ o ∈ ops, ∀ u, f (obRow o ++ u) = some (o, (obRow o).length)) → rdl f (encl s ops ++ t) = some (s, ops, (encl s ops).length) := by
    intro f hf
    unfold rdl encl
    rw [List.append_assoc, Nm.rv_row (by omega)]
    simp only
    rw [List.drop_left, List.append_assoc, Nm.rv_row (by omega)]
    simp only
    rw [if_neg (by omega), ← List.drop_drop, List.drop_left, List.drop_left, many_rows f ops t hf]
    simp only [List.length_append]
    rw [Nat.add_assoc]
  refine ⟨key ro fun o ho u => ?_, key rr fun o ho u => ?_⟩
  · obtain ⟨a, b⟩ := rr_row o u (h2 o ho).1 (h2 o ho).2
    rw [b, a]
  · exact (rr_row o u (h2 o ho).1 (h2 o ho).2).1

theorem encl_rdl {l : List UInt8} {s : Nat} {o : List Ob} {k : Nat} (h : rdl ro l = some (s, o, k)) : k ≤ l.length ∧ l.take k = encl s o ∧ s < 18446744073709551616 := by
  unfold rdl at h
  cases h1 : Nm.rv l with
  | none => rw [h1] at h; cases h
  | some x =>
    obtain ⟨s', a⟩ := x
    rw [h1] at h
    simp only at h
    cases h2 : Nm.rv (l.drop a) with
    | none => rw [h2] at h; cases h
    | some y =>
      obtain ⟨n, c⟩ := y
      rw [h2] at h
      simp only at h
      split at h
      · cases h
      · cases h3 : many ro n (l.drop (a + c)) with
        | none => rw [h3] at h; cases h
        | some z =>
          obtain ⟨os, m⟩ := z
          rw [h3] at h
          simp only [Option.some.injEq, Prod.mk.injEq] at h
          obtain ⟨rfl, rfl, rfl⟩ := h
          obtain ⟨a1, a2, a3, a4⟩ := Nm.row_rv h1
          obtain ⟨b1, b2, b3, b4⟩ := Nm.row_rv h2
          obtain ⟨c1, c2, c3⟩ := rows_many _ _ _ _ h3
          rw [List.length_drop] at b2 c2
          refine ⟨by omega, ?_, a4⟩
          unfold encl
          rw [a3, c1, b3, ← c3, Nat.add_assoc, List.take_add, List.take_add, List.drop_drop]

theorem decl_encl {s : Nat} {ops : List Ob} (h : chk s ops = 0) : decl (encl s ops) = some (s, ops) := by
  have e := (rdl_encl h []).1
  rw [List.append_nil] at e
  unfold decl
  rw [e]
  simp [h]
theorem encl_decl {l : List UInt8} {s : Nat} {o : List Ob} (h : decl l = some (s, o)) : l = encl s o ∧ chk s o = 0 ∧ s < 18446744073709551616 := by
  unfold decl at h
  cases h1 : rdl ro l with
  | none => rw [h1] at h; cases h
  | some x =>
    obtain ⟨s', o', k⟩ := x
    rw [h1] at h
    simp only at h
    split at h
    · rename_i hc
      simp only [Option.some.injEq, Prod.mk.injEq] at h
      obtain ⟨rfl, rfl⟩ := h
      obtain ⟨a1, a2, a3⟩ := encl_rdl h1
      rw [hc.1, List.take_of_length_le (Nat.le_refl _)] at a2
      exact ⟨a2, hc.2, a3⟩
    · cases h
theorem declR_eq (l : List UInt8) : declR l = decl l := by
  cases h : decl l with
  | some x =>
    obtain ⟨s, o⟩ := x
    obtain ⟨h1, h2, _⟩ := encl_decl h
    have e := (rdl_encl h2 []).2
    rw [List.append_nil, ← h1] at e
    unfold declR
    rw [e]
    simp only
    rw [if_pos ⟨h2, h1.symm⟩]
  | none =>
    cases h1 : declR l with
    | none => rfl
    | some x =>
      obtain ⟨s, o⟩ := x
      exfalso
      unfold declR at h1
      cases h2 : rdl rr l with
      | none => rw [h2] at h1; cases h1
      | some y =>
        obtain ⟨s', o', k⟩ := y
        rw [h2] at h1
        simp only at h1
        split at h1
        · rename_i hc
          have e := decl_encl hc.1
          rw [hc.2, h] at e
          cases e
        · cases h1
/-- Cut short, or with anything behind, they are none's. -/
theorem decl_cut {s : Nat} {ops : List Ob} (h : chk s ops = 0) (c : Nat) (hc : c < (encl s ops).length) : decl ((encl s ops).take c) = none := by
  cases h1 : decl ((encl s ops).take c) with
  | none => rfl
  | some x =>
    obtain ⟨s', o'⟩ := x
    exfalso
    obtain ⟨a1, a2, _⟩ := encl_decl h1
    have e1 := (rdl_encl h []).1
    have e2 := (rdl_encl a2 ((encl s ops).drop c)).1
    rw [← a1, List.take_append_drop, List.length_take] at e2
    rw [List.append_nil, e2] at e1
    simp only [Option.some.injEq, Prod.mk.injEq] at e1
    omega
theorem decl_more {s : Nat} {ops : List Ob} (h : chk s ops = 0) (t : List UInt8) (ht : t ≠ []) : decl (encl s ops ++ t) = none := by
  unfold decl
  rw [(rdl_encl h t).1]
  simp only
  rw [if_neg]
  rintro ⟨h1, _⟩
  rw [List.length_append] at h1
  cases t with
  | nil => exact ht rfl
  | cons a t => simp at h1

end Bt

end Go.Proofs.Ytohfjibhfbcanaa
