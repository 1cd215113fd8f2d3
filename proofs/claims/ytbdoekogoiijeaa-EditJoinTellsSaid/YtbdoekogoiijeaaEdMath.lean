/- Edits as plain lists: their bytes, and what is read of bytes. No function is named. -/
import Derived.Test.YtbdoekogoiijeaaNumVarU
namespace Go.Proofs.Ytbdoekogoiijeaa

/-- A table. -/
structure Tbl where
  n : Nat
  level : Int
  count : Int
  size : Int
  first : ByteArray
  last : ByteArray
  least : Nat
  most : Nat
def tbd : Tbl := ⟨0, 0, 0, 0, ByteArray.empty, ByteArray.empty, 0, 0⟩
/-- An edit. -/
structure Edt where
  add : List Tbl
  drop : List Nat
  log : Nat
  seq : Nat
  next : Nat
def edd : Edt := ⟨[], [], 0, 0, 0⟩

namespace Ed

def numOk (n : Nat) : Bool := decide (1 ≤ n) && decide (n ≤ 1099511627776)
def keyOk (s : ByteArray) : Bool := decide (1 ≤ s.size) && decide (s.size ≤ 64)
def tbOk (t : Tbl) : Bool := numOk t.n && (decide (0 ≤ t.level) && (decide (t.level < 4) && (decide (1 ≤ t.count) && (decide (1 ≤ t.size) && (keyOk t.first && (keyOk t.last && (!Op.bytesLess t.last.data.toList t.first.data.toList && (decide (1 ≤ t.least) && decide (t.least ≤ t.most)))))))))
def chk (add : List Tbl) (drop : List Nat) : Nat := if (add.all tbOk && drop.all numOk) = true then 0 else 1

def nums (t : Tbl) : List Nat := [t.n, t.level.toNat, t.count.toNat, t.size.toNat, t.least, t.most]
def tbRow (t : Tbl) : List UInt8 := varl (nums t) ++ textl [t.first, t.last]
def enc (e : Edt) : List UInt8 := Nm.row e.add.length ++ (e.add.flatMap tbRow ++ (Nm.row e.drop.length ++ (varl e.drop ++ varl [e.log, e.seq, e.next])))

/-- What a reader has: what is left, and whether it is broken. -/
structure St where
  rest : List UInt8
  bad : Bool

def num (s : St) : Nat × St := match Nm.rv s.rest with
  | none => (0, ⟨s.rest, true⟩)
  | some (n, k) => (n, ⟨s.rest.drop k, s.bad⟩)
def int (s : St) : Nat × St := if 9223372036854775807 < (num s).1 then (0, ⟨(num s).2.rest, true⟩) else num s
def key (s : St) : ByteArray × St := match rt s.rest 64 with
  | none => (ByteArray.empty, ⟨s.rest, true⟩)
  | some (t, k) => (⟨t.toArray⟩, ⟨s.rest.drop k, s.bad⟩)
def tab (s : St) : Tbl × St :=
  (⟨(num s).1, ((int (num s).2).1 : Nat), ((int (int (num s).2).2).1 : Nat), ((int (int (int (num s).2).2).2).1 : Nat),
    (key (num (num (int (int (int (num s).2).2).2).2).2).2).1, (key (key (num (num (int (int (int (num s).2).2).2).2).2).2).2).1,
    (num (int (int (int (num s).2).2).2).2).1, (num (num (int (int (int (num s).2).2).2).2).2).1⟩,
   (key (key (num (num (int (int (int (num s).2).2).2).2).2).2).2).2)
def many {α : Type} (f : St → α × St) : Nat → St → List α × St
  | 0, s => ([], s)
  | n + 1, s => if s.bad = true then ([], s) else ((f s).1 :: (many f n (f s).2).1, (many f n (f s).2).2)
def lst {α : Type} (f : St → α × St) (s : St) : List α × St := many f (num s).1 (num s).2

/-- The edit of some bytes. -/
def dec (l : List UInt8) : Option Edt :=
  if (num (num (num (lst num (lst tab ⟨l, false⟩).2).2).2).2).2.bad = false ∧ (num (num (num (lst num (lst tab ⟨l, false⟩).2).2).2).2).2.rest = [] ∧ chk (lst tab ⟨l, false⟩).1 (lst num (lst tab ⟨l, false⟩).2).1 = 0 then
    some ⟨(lst tab ⟨l, false⟩).1, (lst num (lst tab ⟨l, false⟩).2).1, (num (lst num (lst tab ⟨l, false⟩).2).2).1, (num (num (lst num (lst tab ⟨l, false⟩).2).2).2).1, (num (num (num (lst num (lst tab ⟨l, false⟩).2).2).2).2).1⟩
  else none
def decode (l : List UInt8) : Option Edt := if 524288 < l.length then none else dec l

/-- What a reading tells: if it is not broken behind it, it was not ahead, and what is gone is the row of what was told, which is such a one. -/
def Reads {α : Type} (f : St → α × St) (row : α → List UInt8) (ok : α → Prop) : Prop :=
  (∀ s, (f s).2.bad = false → s.bad = false ∧ s.rest = row (f s).1 ++ (f s).2.rest ∧ ok (f s).1) ∧ ∀ x t, ok x → f ⟨row x ++ t, false⟩ = (x, ⟨t, false⟩)

theorem num_reads : Reads num Nm.row (fun n => n < 18446744073709551616) := by
  refine ⟨fun s h => ?_, fun x t hx => ?_⟩
  · unfold num at h ⊢
    cases hv : Nm.rv s.rest with
    | none => rw [hv] at h; cases h
    | some p =>
      obtain ⟨n, k⟩ := p
      rw [hv] at h
      obtain ⟨_, h2, h3, h4⟩ := Nm.row_rv hv
      exact ⟨h, by simp only; rw [h3, List.take_append_drop], h4⟩
  · unfold num
    simp only
    rw [Nm.rv_row hx]
    simp only
    rw [List.drop_left]
theorem int_reads : Reads int Nm.row (fun n => n ≤ 9223372036854775807) := by
  refine ⟨fun s h => ?_, fun x t hx => ?_⟩
  · unfold int at h ⊢
    split at h
    · cases h
    · rename_i hn
      rw [if_neg hn]
      obtain ⟨a, b, _⟩ := num_reads.1 s h
      exact ⟨a, b, by omega⟩
  · unfold int
    rw [num_reads.2 x t (by omega), if_neg (by simp only; omega)]
theorem rt_row (s : ByteArray) (t : List UInt8) (hm : s.size ≤ 64) : rt (Nm.row s.size ++ s.data.toList ++ t) 64 = some (s.data.toList, (Nm.row s.size ++ s.data.toList).length) := by
  unfold rt
  rw [List.append_assoc, Nm.rv_row (by omega)]
  simp only
  have e : s.data.toList.length = s.size := by simp
  rw [if_neg (by simp; omega)]
  simp
theorem row_rt {l t : List UInt8} {k : Nat} (h : rt l 64 = some (t, k)) : l.take k = Nm.row t.length ++ t ∧ t.length ≤ 64 ∧ k ≤ l.length ∧ 1 ≤ k := by
  unfold rt at h
  cases hv : Nm.rv l with
  | none => rw [hv] at h; cases h
  | some x =>
    obtain ⟨n, j⟩ := x
    rw [hv] at h
    simp only at h
    split at h
    · cases h
    · rename_i hc
      simp only [Option.some.injEq, Prod.mk.injEq] at h
      obtain ⟨rfl, rfl⟩ := h
      obtain ⟨h1, h2, h3, h4⟩ := Nm.row_rv hv
      have hl : ((l.drop j).take n).length = n := by rw [List.length_take, List.length_drop]; omega
      refine ⟨?_, by rw [hl]; omega, by omega, by omega⟩
      rw [hl, h3, List.take_add]
def keyRow (s : ByteArray) : List UInt8 := Nm.row s.size ++ s.data.toList
theorem key_reads : Reads key keyRow (fun s => s.size ≤ 64) := by
  refine ⟨fun s h => ?_, fun x t hx => ?_⟩
  · unfold key at h ⊢
    cases hv : rt s.rest 64 with
    | none => rw [hv] at h; cases h
    | some p =>
      obtain ⟨t, k⟩ := p
      rw [hv] at h
      obtain ⟨h1, h2, h3, h4⟩ := row_rt hv
      have e : (⟨t.toArray⟩ : ByteArray).size = t.length := by show t.toArray.size = _; simp
      refine ⟨h, ?_, by simp only; omega⟩
      simp only [keyRow]
      rw [e, ← h1, List.take_append_drop]
  · unfold key keyRow
    simp only
    rw [rt_row x t hx]
    simp only
    rw [List.drop_left]

/-- What a table has, if it is read. -/
def Fits (t : Tbl) : Prop := t.n < 18446744073709551616 ∧ (0 ≤ t.level ∧ t.level ≤ 9223372036854775807) ∧ (0 ≤ t.count ∧ t.count ≤ 9223372036854775807) ∧ (0 ≤ t.size ∧ t.size ≤ 9223372036854775807) ∧ t.first.size ≤ 64 ∧ t.last.size ≤ 64 ∧ t.least < 18446744073709551616 ∧ t.most < 18446744073709551616

theorem tab_reads : Reads tab tbRow Fits := by
  have er : ∀ t : Tbl, ∀ r, tbRow t ++ r = Nm.row t.n ++ (Nm.row t.level.toNat ++ (Nm.row t.count.toNat ++ (Nm.row t.size.toNat ++ (Nm.row t.least ++ (Nm.row t.most ++ (keyRow t.first ++ (keyRow t.last ++ r))))))) := by
    intro t r
    simp [tbRow, varl, textl, nums, keyRow]
  refine ⟨fun s h => ?_, fun x t hx => ?_⟩
  · unfold tab at h ⊢
    simp only at h ⊢
    obtain ⟨h8, r8, o8⟩ := key_reads.1 _ h
    obtain ⟨h7, r7, o7⟩ := key_reads.1 _ h8
    obtain ⟨h6, r6, o6⟩ := num_reads.1 _ h7
    obtain ⟨h5, r5, o5⟩ := num_reads.1 _ h6
    obtain ⟨h4, r4, o4⟩ := int_reads.1 _ h5
    obtain ⟨h3, r3, o3⟩ := int_reads.1 _ h4
    obtain ⟨h2, r2, o2⟩ := int_reads.1 _ h3
    obtain ⟨h1, r1, o1⟩ := num_reads.1 _ h2
    refine ⟨h1, ?_, ⟨o1, ⟨by simp only; omega, by simp only; omega⟩, ⟨by simp only; omega, by simp only; omega⟩, ⟨by simp only; omega, by simp only; omega⟩, o7, o8, o5, o6⟩⟩
    rw [er]
    simp only [Int.toNat_natCast]
    rw [← r8, ← r7, ← r6, ← r5, ← r4, ← r3, ← r2, ← r1]
  · obtain ⟨o1, o2, o3, o4, o7, o8, o5, o6⟩ := hx
    have k1 : num ⟨tbRow x ++ t, false⟩ = (x.n, ⟨Nm.row x.level.toNat ++ (Nm.row x.count.toNat ++ (Nm.row x.size.toNat ++ (Nm.row x.least ++ (Nm.row x.most ++ (keyRow x.first ++ (keyRow x.last ++ t)))))), false⟩) := by rw [er]; exact num_reads.2 _ _ o1
    have k2 := int_reads.2 x.level.toNat (Nm.row x.count.toNat ++ (Nm.row x.size.toNat ++ (Nm.row x.least ++ (Nm.row x.most ++ (keyRow x.first ++ (keyRow x.last ++ t)))))) (by omega)
    have k3 := int_reads.2 x.count.toNat (Nm.row x.size.toNat ++ (Nm.row x.least ++ (Nm.row x.most ++ (keyRow x.first ++ (keyRow x.last ++ t))))) (by omega)
    have k4 := int_reads.2 x.size.toNat (Nm.row x.least ++ (Nm.row x.most ++ (keyRow x.first ++ (keyRow x.last ++ t)))) (by omega)
    have k5 := num_reads.2 x.least (Nm.row x.most ++ (keyRow x.first ++ (keyRow x.last ++ t))) o5
    have k6 := num_reads.2 x.most (keyRow x.first ++ (keyRow x.last ++ t)) o6
    have k7 := key_reads.2 x.first (keyRow x.last ++ t) o7
    have k8 := key_reads.2 x.last t o8
    unfold tab
    simp only [k1, k2, k3, k4, k5, k6, k7, k8]
    rw [Int.toNat_of_nonneg o2.1, Int.toNat_of_nonneg o3.1, Int.toNat_of_nonneg o4.1]

theorem many_read {α : Type} {f : St → α × St} {row : α → List UInt8} {ok : α → Prop} (hf : Reads f row ok) : ∀ (n : Nat) (s : St), (many f n s).2.bad = false → s.bad = false ∧ s.rest = (many f n s).1.flatMap row ++ (many f n s).2.rest ∧ (many f n s).1.length = n ∧ ∀ x ∈ (many f n s).1, ok x
  | 0, s, h => ⟨h, by simp [many], rfl, by simp [many]⟩
  | n + 1, s, h => by
    rw [many] at h ⊢
    by_cases hb : s.bad = true
    · rw [if_pos hb] at h; simp only at h; rw [hb] at h; cases h
    · rw [if_neg hb] at h ⊢
      simp only at h ⊢
      obtain ⟨h1, h2, h3, h4⟩ := many_read hf n _ h
      obtain ⟨k1, k2, k3⟩ := hf.1 s h1
      refine ⟨k1, by rw [k2, h2, List.flatMap_cons, List.append_assoc], by simp [h3], fun x hx => ?_⟩
      rcases List.mem_cons.1 hx with rfl | hx
      · exact k3
      · exact h4 x hx
theorem many_rows {α : Type} {f : St → α × St} {row : α → List UInt8} {ok : α → Prop} (hf : Reads f row ok) : ∀ (l : List α) (t : List UInt8), (∀ x ∈ l, ok x) → many f l.length ⟨l.flatMap row ++ t, false⟩ = (l, ⟨t, false⟩)
  | [], t, _ => rfl
  | x :: l, t, h => by
    rw [List.length_cons, many, if_neg (by simp), List.flatMap_cons, List.append_assoc, hf.2 x _ (h x (List.mem_cons_self ..))]
    simp only
    rw [many_rows hf l t (fun y hy => h y (List.mem_cons_of_mem _ hy))]
theorem lst_reads {α : Type} {f : St → α × St} {row : α → List UInt8} {ok : α → Prop} (hf : Reads f row ok) : Reads (lst f) (fun l => Nm.row l.length ++ l.flatMap row) (fun l => l.length < 18446744073709551616 ∧ ∀ x ∈ l, ok x) := by
  refine ⟨fun s h => ?_, fun l t hl => ?_⟩
  · unfold lst at h ⊢
    obtain ⟨h1, h2, h3, h4⟩ := many_read hf _ _ h
    obtain ⟨k1, k2, k3⟩ := num_reads.1 s h1
    refine ⟨k1, ?_, by rw [h3]; exact k3, h4⟩
    simp only
    rw [h3, List.append_assoc, ← h2, ← k2]
  · unfold lst
    simp only
    rw [List.append_assoc, num_reads.2 l.length _ hl.1]
    exact many_rows hf l t hl.2

/-- What an edit has that can be read. -/
def Right (e : Edt) : Prop := e.add.length < 18446744073709551616 ∧ (∀ t ∈ e.add, Fits t) ∧ e.drop.length < 18446744073709551616 ∧ (∀ n ∈ e.drop, n < 18446744073709551616) ∧ e.log < 18446744073709551616 ∧ e.seq < 18446744073709551616 ∧ e.next < 18446744073709551616

theorem enc_eq (e : Edt) (r : List UInt8) : enc e ++ r = (Nm.row e.add.length ++ e.add.flatMap tbRow) ++ ((Nm.row e.drop.length ++ e.drop.flatMap Nm.row) ++ (Nm.row e.log ++ (Nm.row e.seq ++ (Nm.row e.next ++ r)))) := by
  simp [enc, varl]

theorem dec_enc (e : Edt) (hr : Right e) (r : List UInt8) : lst tab ⟨enc e ++ r, false⟩ = (e.add, ⟨(Nm.row e.drop.length ++ e.drop.flatMap Nm.row) ++ (Nm.row e.log ++ (Nm.row e.seq ++ (Nm.row e.next ++ r))), false⟩) ∧
    lst num ⟨(Nm.row e.drop.length ++ e.drop.flatMap Nm.row) ++ (Nm.row e.log ++ (Nm.row e.seq ++ (Nm.row e.next ++ r))), false⟩ = (e.drop, ⟨Nm.row e.log ++ (Nm.row e.seq ++ (Nm.row e.next ++ r)), false⟩) ∧
    num ⟨Nm.row e.log ++ (Nm.row e.seq ++ (Nm.row e.next ++ r)), false⟩ = (e.log, ⟨Nm.row e.seq ++ (Nm.row e.next ++ r), false⟩) ∧
    num ⟨Nm.row e.seq ++ (Nm.row e.next ++ r), false⟩ = (e.seq, ⟨Nm.row e.next ++ r, false⟩) ∧ num ⟨Nm.row e.next ++ r, false⟩ = (e.next, ⟨r, false⟩) := by
  obtain ⟨h1, h2, h3, h4, h5, h6, h7⟩ := hr
  refine ⟨?_, (lst_reads num_reads).2 _ _ ⟨h3, h4⟩, num_reads.2 _ _ h5, num_reads.2 _ _ h6, num_reads.2 _ _ h7⟩
  rw [enc_eq]
  exact (lst_reads tab_reads).2 _ _ ⟨h1, h2⟩

theorem dec_of (e : Edt) (hr : Right e) (hk : chk e.add e.drop = 0) : dec (enc e) = some e := by
  obtain ⟨h1, h2, h3, h4, h5⟩ := dec_enc e hr []
  rw [List.append_nil] at h1
  unfold dec
  simp only [h1, h2, h3, h4, h5, hk, and_self, if_true]
theorem dec_more (e : Edt) (hr : Right e) (r : List UInt8) (hn : r ≠ []) : dec (enc e ++ r) = none := by
  obtain ⟨h1, h2, h3, h4, h5⟩ := dec_enc e hr r
  unfold dec
  simp only [h1, h2, h3, h4, h5, hn, false_and, and_false, if_false]
theorem of_dec {l : List UInt8} {e : Edt} (h : dec l = some e) : l = enc e ∧ Right e ∧ chk e.add e.drop = 0 := by
  unfold dec at h
  split at h
  · rename_i hc
    obtain ⟨c1, c2, c3⟩ := hc
    simp only [Option.some.injEq] at h
    subst h
    obtain ⟨b5, r5, o5⟩ := num_reads.1 _ c1
    obtain ⟨b4, r4, o4⟩ := num_reads.1 _ b5
    obtain ⟨b3, r3, o3⟩ := num_reads.1 _ b4
    obtain ⟨b2, r2, o2, p2⟩ := (lst_reads num_reads).1 _ b3
    obtain ⟨b1, r1, o1, p1⟩ := (lst_reads tab_reads).1 _ b2
    refine ⟨?_, ⟨o1, p1, o2, p2, o3, o4, o5⟩, c3⟩
    rw [← List.append_nil (enc _), enc_eq]
    simp only
    rw [← c2, ← r5, ← r4, ← r3, ← r2, ← r1]
  · cases h

/-- Cut short, the bytes are none's. -/
theorem dec_cut (e : Edt) (hr : Right e) (c : Nat) (hc : c < (enc e).length) : dec ((enc e).take c) = none := by
  cases h : dec ((enc e).take c) with
  | none => rfl
  | some e' =>
    exfalso
    obtain ⟨a1, a2, a3⟩ := of_dec h
    obtain ⟨h1, h2, h3, h4, h5⟩ := dec_enc e' a2 ((enc e).drop c)
    rw [← a1, List.take_append_drop] at h1
    obtain ⟨k1, k2, k3, k4, k5⟩ := dec_enc e hr []
    rw [List.append_nil, h1] at k1
    simp only [Prod.mk.injEq] at k1
    rw [← k1.2, h2] at k2
    simp only [Prod.mk.injEq] at k2
    rw [← k2.2, h3] at k3
    simp only [Prod.mk.injEq] at k3
    rw [← k3.2, h4] at k4
    simp only [Prod.mk.injEq] at k4
    rw [← k4.2, h5] at k5
    simp only [Prod.mk.injEq, St.mk.injEq] at k5
    have := congrArg List.length k5.2.1
    simp at this
    omega

theorem chk_ok {a : List Tbl} {d : List Nat} (h : chk a d = 0) : (∀ t ∈ a, tbOk t = true) ∧ ∀ n ∈ d, numOk n = true := by
  unfold chk at h
  split at h
  · rename_i hc
    rw [Bool.and_eq_true, List.all_eq_true, List.all_eq_true] at hc
    exact hc
  · cases h
theorem tbOk_iff (t : Tbl) : tbOk t = true ↔ (1 ≤ t.n ∧ t.n ≤ 1099511627776) ∧ 0 ≤ t.level ∧ t.level < 4 ∧ 1 ≤ t.count ∧ 1 ≤ t.size ∧ (1 ≤ t.first.size ∧ t.first.size ≤ 64) ∧ (1 ≤ t.last.size ∧ t.last.size ≤ 64) ∧ Op.bytesLess t.last.data.toList t.first.data.toList = false ∧ 1 ≤ t.least ∧ t.least ≤ t.most := by
  simp [tbOk, numOk, keyOk]

end Ed

end Go.Proofs.Ytbdoekogoiijeaa
