/- The document's reading of an edit, plainly: the same as dec. No function is named. -/
import Derived.Test.YtlhokfildhcdhaaEdD
namespace Go.Proofs.Ytlhokfildhcdhaa
set_option linter.unusedVariables false

namespace Ed
/-- So many, one behind the other, from a place on. -/
def seq {α : Type} (f : List UInt8 → Option (α × Nat)) (l : List UInt8) (a : Nat) : Nat → Option (List α × Nat)
  | 0 => some ([], a)
  | k + 1 => match seq f l a k with
    | none => none
    | some (xs, j) => match f (l.drop j) with
      | none => none
      | some (x, i) => some (xs ++ [x], j + i)
def Snd {α : Type} (f : List UInt8 → Option (α × Nat)) (row : α → List UInt8) (ok : α → Prop) : Prop := ∀ l x i, f l = some (x, i) → l.take i = row x ∧ i ≤ l.length ∧ ok x
def Cmp {α : Type} (f : List UInt8 → Option (α × Nat)) (row : α → List UInt8) (ok : α → Prop) : Prop := ∀ x t, ok x → f (row x ++ t) = some (x, (row x).length)

theorem seq_snd {α : Type} {f : List UInt8 → Option (α × Nat)} {row : α → List UInt8} {ok : α → Prop} (hf : Snd f row ok) (l : List UInt8) (a : Nat) (ha : a ≤ l.length) : ∀ (k : Nat) (xs : List α) (j : Nat), seq f l a k = some (xs, j) → xs.length = k ∧ a ≤ j ∧ j ≤ l.length ∧ (l.drop a).take (j - a) = xs.flatMap row ∧ ∀ x ∈ xs, ok x
  | 0, xs, j, h => by
    simp only [seq, Option.some.injEq, Prod.mk.injEq] at h
    obtain ⟨rfl, rfl⟩ := h
    refine ⟨rfl, Nat.le_refl _, ha, by simp, by simp⟩
  | k + 1, xs, j, h => by
    rw [seq] at h
    cases h1 : seq f l a k with
    | none => rw [h1] at h; cases h
    | some p =>
      obtain ⟨ys, b⟩ := p
      rw [h1] at h
      simp only at h
      obtain ⟨e1, e2, e3, e4, e5⟩ := seq_snd hf l a ha k ys b h1
      cases h2 : f (l.drop b) with
      | none => rw [h2] at h; cases h
      | some q =>
        obtain ⟨x, i⟩ := q
        rw [h2] at h
        simp only [Option.some.injEq, Prod.mk.injEq] at h
        obtain ⟨rfl, rfl⟩ := h
        obtain ⟨g1, g2, g3⟩ := hf _ _ _ h2
        rw [List.length_drop] at g2
        refine ⟨by simp [e1], by omega, by omega, ?_, fun y hy => ?_⟩
        · rw [List.flatMap_append, ← e4, List.flatMap_singleton, ← g1, show b + i - a = (b - a) + i by omega, List.take_add, List.drop_drop, show a + (b - a) = b by omega]
        · rcases List.mem_append.1 hy with hy | hy
          · exact e5 y hy
          · obtain rfl : y = x := by simpa using hy
            exact g3
theorem seq_cmp {α : Type} {f : List UInt8 → Option (α × Nat)} {row : α → List UInt8} {ok : α → Prop} (hf : Cmp f row ok) (p t : List UInt8) (xs : List α) (hx : ∀ x ∈ xs, ok x) : ∀ k, k ≤ xs.length → seq f (p ++ (xs.flatMap row ++ t)) p.length k = some (xs.take k, p.length + ((xs.take k).flatMap row).length)
  | 0, _ => by simp [seq]
  | k + 1, h => by
    have hk : k < xs.length := h
    have e : (p ++ (xs.flatMap row ++ t)).drop (p.length + ((xs.take k).flatMap row).length) = row xs[k] ++ ((xs.drop (k + 1)).flatMap row ++ t) := by
      rw [← List.drop_drop, List.drop_left]
      have e1 : xs.flatMap row = (xs.take k).flatMap row ++ (xs.drop k).flatMap row := by rw [← List.flatMap_append, List.take_append_drop]
      rw [e1, List.append_assoc, List.drop_left, List.drop_eq_getElem_cons hk, List.flatMap_cons, List.append_assoc]
    rw [seq, seq_cmp hf p t xs hx k (by omega)]
    simp only
    rw [e, hf _ _ (hx _ (List.getElem_mem hk)), List.take_succ_eq_append_getElem hk]
    simp only [List.flatMap_append, List.flatMap_singleton, List.length_append]
    rw [Nat.add_assoc]

theorem rv_snd : Snd Nm.rv Nm.row (fun n => n < 18446744073709551616) := fun l x i h => by
  obtain ⟨_, h2, h3, h4⟩ := Nm.row_rv h
  exact ⟨h3.symm, h2, h4⟩
theorem rv_cmp : Cmp Nm.rv Nm.row (fun n => n < 18446744073709551616) := fun x t h => Nm.rv_row h t

/-- A table read as the document does. -/
def tb (l : List UInt8) : Option (Tbl × Nat) :=
  match seq Nm.rv l 0 6 with
  | none => none
  | some (ns, a) => if 3 < ns.getD 1 0 ∨ 9223372036854775807 < ns.getD 2 0 ∨ 9223372036854775807 < ns.getD 3 0 then none else
    match rt (l.drop a) 64 with
    | none => none
    | some (x, i) => match rt (l.drop (a + i)) 64 with
      | none => none
      | some (y, j) => some (⟨ns.getD 0 0, (ns.getD 1 0 : Nat), (ns.getD 2 0 : Nat), (ns.getD 3 0 : Nat), ⟨x.toArray⟩, ⟨y.toArray⟩, ns.getD 4 0, ns.getD 5 0⟩, a + i + j)
def Low (t : Tbl) : Prop := Fits t ∧ t.level ≤ 3

theorem six {ns : List Nat} (h : ns.length = 6) : ns = [ns.getD 0 0, ns.getD 1 0, ns.getD 2 0, ns.getD 3 0, ns.getD 4 0, ns.getD 5 0] := by
  match ns, h with
  | [a, b, c, d, e, f], _ => rfl
theorem key_of {l : List UInt8} {x : List UInt8} {i : Nat} (h : rt l 64 = some (x, i)) : l.take i = keyRow ⟨x.toArray⟩ ∧ i ≤ l.length ∧ (⟨x.toArray⟩ : ByteArray).size ≤ 64 := by
  obtain ⟨h1, h2, h3, h4⟩ := row_rt h
  have e : (⟨x.toArray⟩ : ByteArray).size = x.length := by show x.toArray.size = _; simp
  refine ⟨?_, h3, by rw [e]; exact h2⟩
  unfold keyRow
  rw [e, h1]
theorem tbRow_eq (t : Tbl) : tbRow t = (nums t).flatMap Nm.row ++ (keyRow t.first ++ keyRow t.last) := by
  simp [tbRow, varl, textl, keyRow]

theorem tb_snd : Snd tb tbRow Low := by
  intro l t i h
  unfold tb at h
  cases h1 : seq Nm.rv l 0 6 with
  | none => rw [h1] at h; cases h
  | some p =>
    obtain ⟨ns, a⟩ := p
    rw [h1] at h
    simp only at h
    obtain ⟨e1, -, e3, e4, e5⟩ := seq_snd rv_snd l 0 (Nat.zero_le _) 6 ns a h1
    rw [List.drop_zero, Nat.sub_zero] at e4
    split at h
    · cases h
    · rename_i hc
      cases h2 : rt (l.drop a) 64 with
      | none => rw [h2] at h; cases h
      | some q =>
        obtain ⟨x, u⟩ := q
        rw [h2] at h
        simp only at h
        cases h3 : rt (l.drop (a + u)) 64 with
        | none => rw [h3] at h; cases h
        | some q =>
          obtain ⟨y, v⟩ := q
          rw [h3] at h
          simp only [Option.some.injEq, Prod.mk.injEq] at h
          obtain ⟨rfl, rfl⟩ := h
          obtain ⟨a1, a2, a3⟩ := key_of h2
          obtain ⟨b1, b2, b3⟩ := key_of h3
          rw [List.length_drop] at a2 b2
          have hb : ∀ k, ns.getD k 0 < 18446744073709551616 := bound_u e5
          have h0 := hb 0; have h4 := hb 4; have h5 := hb 5
          refine ⟨?_, by omega, ⟨h0, ⟨by simp only; omega, by simp only; omega⟩, ⟨by simp only; omega, by simp only; omega⟩, ⟨by simp only; omega, by simp only; omega⟩, a3, b3, h4, h5⟩, by simp only; omega⟩
          rw [tbRow_eq]
          have en : nums ⟨ns.getD 0 0, (ns.getD 1 0 : Nat), (ns.getD 2 0 : Nat), (ns.getD 3 0 : Nat), ⟨x.toArray⟩, ⟨y.toArray⟩, ns.getD 4 0, ns.getD 5 0⟩ = ns := by
            unfold nums
            simp only [Int.toNat_natCast]
            exact (six e1).symm
          rw [en, ← e4]
          simp only
          rw [← a1, ← b1, List.take_add, List.take_add, List.append_assoc]
theorem tb_cmp : Cmp tb tbRow Low := by
  intro t r h
  obtain ⟨⟨o1, o2, o3, o4, o5, o6, o7, o8⟩, hl⟩ := h
  have hn : ∀ n ∈ nums t, n < 18446744073709551616 := by
    intro n hn
    simp only [nums, List.mem_cons, List.not_mem_nil, or_false] at hn
    rcases hn with rfl | rfl | rfl | rfl | rfl | rfl <;> omega
  have h6 := seq_cmp rv_cmp [] (keyRow t.first ++ (keyRow t.last ++ r)) (nums t) hn 6 (Nat.le_refl _)
  have ht : (nums t).take 6 = nums t := rfl
  rw [ht, List.nil_append, List.length_nil, Nat.zero_add] at h6
  have hl0 : tbRow t ++ r = (nums t).flatMap Nm.row ++ (keyRow t.first ++ (keyRow t.last ++ r)) := by rw [tbRow_eq]; simp
  rw [hl0]
  have k1 : rt (keyRow t.first ++ (keyRow t.last ++ r)) 64 = some (t.first.data.toList, (keyRow t.first).length) := rt_row t.first (keyRow t.last ++ r) o5
  have k2 : rt (keyRow t.last ++ r) 64 = some (t.last.data.toList, (keyRow t.last).length) := rt_row t.last r o6
  unfold tb
  rw [h6]
  simp only
  rw [if_neg (by simp only [nums, List.getD_cons_succ, List.getD_cons_zero]; omega)]
  rw [List.drop_left, k1]
  simp only
  rw [← List.drop_drop, List.drop_left, List.drop_left, k2]
  simp only [Option.some.injEq, Prod.mk.injEq]
  refine ⟨?_, by rw [tbRow_eq, List.length_append, List.length_append, Nat.add_assoc]⟩
  obtain ⟨n, lv, ct, sz, f, g, le, mo⟩ := t
  simp only [nums, List.getD_cons_succ, List.getD_cons_zero, Tbl.mk.injEq] at *
  refine ⟨by first | trivial | rfl, Int.toNat_of_nonneg o2.1, Int.toNat_of_nonneg o3.1, Int.toNat_of_nonneg o4.1, by first | trivial | rfl, by first | trivial | rfl, by first | trivial | rfl, by first | trivial | rfl⟩

/-- An edit read as the document does. -/
def fin (ts : List Tbl) (ns : List Nat) (m : Nat) : Edt := ⟨ts, ns.take m, ns.getD m 0, ns.getD (m + 1) 0, ns.getD (m + 2) 0⟩
def rd (l : List UInt8) : Option Edt :=
  match Nm.rv l with
  | none => none
  | some (n, a) => if l.length < n then none else
    match seq tb l a n with
    | none => none
    | some (ts, b) => match Nm.rv (l.drop b) with
      | none => none
      | some (m, c) => if l.length < m then none else
        match seq Nm.rv (l.drop (b + c)) 0 (m + 3) with
        | none => none
        | some (ns, d) => if b + c + d ≠ l.length then none else if chk (fin ts ns m).add (fin ts ns m).drop = 0 then some (fin ts ns m) else none

theorem rd_some {l : List UInt8} {e : Edt} (h : rd l = some e) : dec l = some e := by
  unfold rd at h
  cases h1 : Nm.rv l with
  | none => rw [h1] at h; cases h
  | some p =>
    obtain ⟨n, a⟩ := p
    rw [h1] at h
    simp only at h
    split at h
    · cases h
    rename_i hn
    obtain ⟨c1, c2, c3, c4⟩ := Nm.row_rv h1
    cases h2 : seq tb l a n with
    | none => rw [h2] at h; cases h
    | some p =>
      obtain ⟨ts, b⟩ := p
      rw [h2] at h
      simp only at h
      obtain ⟨t1, t2, t3, t4, t5⟩ := seq_snd tb_snd l a c2 n ts b h2
      cases h3 : Nm.rv (l.drop b) with
      | none => rw [h3] at h; cases h
      | some p =>
        obtain ⟨m, c⟩ := p
        rw [h3] at h
        simp only at h
        split at h
        · cases h
        rename_i hm
        obtain ⟨d1, d2, d3, d4⟩ := Nm.row_rv h3
        rw [List.length_drop] at d2
        cases h4 : seq Nm.rv (l.drop (b + c)) 0 (m + 3) with
        | none => rw [h4] at h; cases h
        | some p =>
          obtain ⟨ns, d⟩ := p
          rw [h4] at h
          simp only at h
          obtain ⟨s1, s2, s3, s4, s5⟩ := seq_snd rv_snd (l.drop (b + c)) 0 (Nat.zero_le _) (m + 3) ns d h4
          split at h
          · cases h
          rename_i he
          split at h
          case isFalse => cases h
          rename_i hk
          simp only [Option.some.injEq] at h
          have hb := bound_u s5
          have hl3 : ns = ns.take m ++ [ns.getD m 0, ns.getD (m + 1) 0, ns.getD (m + 2) 0] := by
            have g : ∀ k (hk : k < ns.length), ns.getD k 0 = ns[k] := fun k hk => by simp [hk]
            rw [g m (by omega), g (m + 1) (by omega), g (m + 2) (by omega)]
            have q0 := List.drop_eq_getElem_cons (l := ns) (i := m) (by omega)
            have q1 := List.drop_eq_getElem_cons (l := ns) (i := m + 1) (by omega)
            have q2 := List.drop_eq_getElem_cons (l := ns) (i := m + 2) (by omega)
            have q3 : ns.drop (m + 2 + 1) = [] := List.drop_eq_nil_of_le (by omega)
            conv => lhs; rw [← List.take_append_drop m ns, q0, q1, q2, q3]
          have hr : Right (fin ts ns m) := by
            refine ⟨by simp only [fin]; omega, fun t ht => (t5 t ht).1, ?_, fun k hk => s5 k (List.mem_of_mem_take hk), hb _, hb _, hb _⟩
            simp only [fin, List.length_take]; omega
          have hl : l = enc (fin ts ns m) := by
            rw [Nat.sub_zero, List.drop_zero, List.take_of_length_le (by rw [List.length_drop]; rw [List.length_drop] at s3; omega)] at s4
            have e1 : l = l.take a ++ ((l.drop a).take (b - a) ++ ((l.drop b).take c ++ l.drop (b + c))) := by
              rw [← List.drop_drop, List.take_append_drop]
              have : (l.drop a).drop (b - a) = l.drop b := by rw [List.drop_drop]; congr 1; omega
              rw [← this, List.take_append_drop, List.take_append_drop]
            rw [e1, ← c3, t4, ← d3, s4]
            have hm3 : (ns.take m).length = m := by rw [List.length_take]; omega
            unfold enc fin varl
            simp only
            rw [t1, hm3, ← List.flatMap_append, ← hl3]
          subst h
          rw [hl]
          exact dec_of _ hr hk
theorem rows_ge {α : Type} {row : α → List UInt8} (h : ∀ x, 1 ≤ (row x).length) : ∀ l : List α, l.length ≤ (l.flatMap row).length
  | [] => by simp
  | x :: l => by
    have := rows_ge h l
    have := h x
    rw [List.flatMap_cons, List.length_append, List.length_cons]; omega
theorem some_rd {l : List UInt8} {e : Edt} (h : dec l = some e) : rd l = some e := by
  obtain ⟨hl, hr, hk⟩ := of_dec h
  obtain ⟨r1, r2, r3, r4, r5, r6, r7⟩ := hr
  obtain ⟨k1, k2⟩ := chk_ok hk
  have hlow : ∀ t ∈ e.add, Low t := fun t ht => ⟨r2 t ht, by have := ((tbOk_iff t).1 (k1 t ht)).2.2.1; omega⟩
  have hall : ∀ n ∈ e.drop ++ [e.log, e.seq, e.next], n < 18446744073709551616 := by
    intro n hn
    rcases List.mem_append.1 hn with hn | hn
    · exact r4 n hn
    · simp only [List.mem_cons, List.not_mem_nil, or_false] at hn
      rcases hn with rfl | rfl | rfl <;> assumption
  have hE : enc e = Nm.row e.add.length ++ (e.add.flatMap tbRow ++ (Nm.row e.drop.length ++ ((e.drop ++ [e.log, e.seq, e.next]).flatMap Nm.row))) := by
    unfold enc varl
    rw [List.flatMap_append]
  have q1 : Nm.rv l = some (e.add.length, (Nm.row e.add.length).length) := by rw [hl, hE]; exact Nm.rv_row r1 _
  have q2 := seq_cmp tb_cmp (Nm.row e.add.length) (Nm.row e.drop.length ++ ((e.drop ++ [e.log, e.seq, e.next]).flatMap Nm.row)) e.add hlow e.add.length (Nat.le_refl _)
  rw [List.take_length, ← hE, ← hl] at q2
  have eb : l.drop ((Nm.row e.add.length).length + (e.add.flatMap tbRow).length) = Nm.row e.drop.length ++ ((e.drop ++ [e.log, e.seq, e.next]).flatMap Nm.row) := by
    rw [hl, hE, ← List.drop_drop, List.drop_left, List.drop_left]
  have q3 : Nm.rv (l.drop ((Nm.row e.add.length).length + (e.add.flatMap tbRow).length)) = some (e.drop.length, (Nm.row e.drop.length).length) := by rw [eb]; exact Nm.rv_row r3 _
  have ec : l.drop ((Nm.row e.add.length).length + (e.add.flatMap tbRow).length + (Nm.row e.drop.length).length) = (e.drop ++ [e.log, e.seq, e.next]).flatMap Nm.row := by
    rw [← List.drop_drop, eb, List.drop_left]
  have q4 := seq_cmp rv_cmp [] [] (e.drop ++ [e.log, e.seq, e.next]) hall (e.drop.length + 3) (by simp)
  have e4 : (e.drop ++ [e.log, e.seq, e.next]).take (e.drop.length + 3) = e.drop ++ [e.log, e.seq, e.next] := List.take_of_length_le (by simp)
  rw [e4, List.nil_append, List.append_nil, List.length_nil, Nat.zero_add, ← ec] at q4
  have hlen : l.length = (Nm.row e.add.length).length + (e.add.flatMap tbRow).length + (Nm.row e.drop.length).length + ((e.drop ++ [e.log, e.seq, e.next]).flatMap Nm.row).length := by
    rw [hl, hE]; simp only [List.length_append]; omega
  have g1 : e.add.length ≤ (e.add.flatMap tbRow).length := rows_ge (fun t => by
    unfold tbRow varl nums
    have := (Nm.row_length t.n).1
    simp only [List.flatMap_cons, List.length_append]; omega) _
  have g2 : e.drop.length + 3 ≤ ((e.drop ++ [e.log, e.seq, e.next]).flatMap Nm.row).length := by
    have := rows_ge (row := Nm.row) (fun n => (Nm.row_length n).1) (e.drop ++ [e.log, e.seq, e.next])
    simpa using this
  unfold rd
  rw [q1]
  simp only
  rw [if_neg (by omega), q2]
  simp only
  rw [q3]
  simp only
  rw [if_neg (by omega), q4]
  simp only
  rw [if_neg (by rw [ec]; omega)]
  have hf : fin e.add (e.drop ++ [e.log, e.seq, e.next]) e.drop.length = e := by
    unfold fin
    rw [List.take_left]
    simp
  rw [hf, if_pos hk]
theorem rd_eq (l : List UInt8) : rd l = dec l := by
  cases h : dec l with
  | some e => exact some_rd h
  | none =>
    cases h2 : rd l with
    | none => rfl
    | some e => rw [rd_some h2] at h; cases h
end Ed

end Go.Proofs.Ytlhokfildhcdhaa
