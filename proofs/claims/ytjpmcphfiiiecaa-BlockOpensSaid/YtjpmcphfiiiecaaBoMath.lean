/- Blocks as plain lists: their bytes, what is read of bytes, and that each is read of its own bytes alone. -/
import Derived.Test.YtjpmcphfiiiecaaNumVarU
namespace Go.Proofs.Ytjpmcphfiiiecaa

/-- A key with its value. -/
structure En where
  key : ByteArray
  val : ByteArray
namespace Bo

def txt (s : List UInt8) : List UInt8 := Nm.row s.length ++ s
/-- With how many bytes both begin. -/
def cm : List UInt8 → List UInt8 → Nat
  | a :: x, b :: y => if a = b then cm x y + 1 else 0
  | _, _ => 0
theorem cm_le : ∀ x y : List UInt8, cm x y ≤ x.length ∧ cm x y ≤ y.length
  | [], _ => by simp [cm]
  | _ :: _, [] => by simp [cm]
  | a :: x, b :: y => by
    have := cm_le x y
    unfold cm
    split <;> simp <;> omega
theorem cm_take : ∀ x y : List UInt8, y.take (cm x y) = x.take (cm x y)
  | [], _ => by simp [cm]
  | _ :: _, [] => by simp [cm]
  | a :: x, b :: y => by
    unfold cm
    split
    · rename_i h
      subst h
      simp [cm_take x y]
    · simp
theorem cm_at : ∀ (x y : List UInt8) (i : Nat), i < cm x y → ∃ b, x[i]? = some b ∧ y[i]? = some b
  | [], _, i, h => by simp [cm] at h
  | _ :: _, [], i, h => by simp [cm] at h
  | a :: x, b :: y, i, h => by
    unfold cm at h
    split at h
    · rename_i e
      subst e
      cases i with
      | zero => exact ⟨a, rfl, rfl⟩
      | succ i => simpa using cm_at x y i (by omega)
    · omega
theorem cm_stop : ∀ (x y : List UInt8), cm x y < x.length → cm x y < y.length → x[cm x y]? ≠ y[cm x y]?
  | [], _, h, _ => by simp at h
  | _ :: _, [], _, h => by simp at h
  | a :: x, b :: y, h, k => by
    unfold cm at h k ⊢
    split at h
    · rename_i e
      subst e
      simp only [if_true, List.length_cons] at h k ⊢
      simpa using cm_stop x y (by omega) (by omega)
    · rename_i e
      rw [if_neg e]
      simpa using e
/-- The only place where that may be. -/
theorem cm_eq {x y : List UInt8} {n : Nat} (h1 : n ≤ x.length) (h2 : n ≤ y.length) (hs : ∀ i, i < n → x[i]? = y[i]?) (he : n = x.length ∨ n = y.length ∨ x[n]? ≠ y[n]?) : cm x y = n := by
  rcases Nat.lt_trichotomy (cm x y) n with h | h | h
  · exact absurd (hs _ h) (cm_stop x y (by omega) (by omega))
  · exact h
  · obtain ⟨b, e1, e2⟩ := cm_at x y n h
    have := cm_le x y
    rcases he with he | he | he
    · omega
    · omega
    · exact absurd (e1.trans e2.symm) he

/-- What a builder holds. -/
structure St where
  rows : List UInt8
  foot : List UInt8
  n : Nat
  last : ByteArray
def st0 : St := ⟨[], [], 0, ByteArray.empty⟩
def sh (s : St) (k : ByteArray) : Nat := if s.n % 4 = 0 then 0 else cm s.last.data.toList k.data.toList
def one (s : St) (e : En) : List UInt8 := Nm.row (sh s e.key) ++ (txt (e.key.data.toList.drop (sh s e.key)) ++ txt e.val.data.toList)
def ftn (s : St) : List UInt8 := if s.n % 4 = 0 then s.foot ++ Nm.big s.rows.length 4 else s.foot
def step (s : St) (e : En) : St := ⟨s.rows ++ one s e, ftn s, s.n + 1, e.key⟩
def run (s : St) (l : List En) : St := l.foldl step s
def fin (s : St) : List UInt8 := s.rows ++ (s.foot ++ Nm.big s.n 4)
def bytes (l : List En) : List UInt8 := fin (run st0 l)
/-- What Add answers. -/
def err (s : St) (e : En) : Nat := if 1024 < e.key.size ∨ 1024 < e.val.size then 3 else if s.n ≠ 0 ∧ Op.bytesLess s.last.data.toList e.key.data.toList = false then 1 else 0
def goodb : St → List En → Bool
  | _, [] => true
  | s, e :: l => decide (err s e = 0) && goodb (step s e) l

theorem run_snoc (s : St) (l : List En) (e : En) : run s (l ++ [e]) = step (run s l) e := by unfold run; rw [List.foldl_append]; rfl
theorem run_cons (s : St) (l : List En) (e : En) : run s (e :: l) = run (step s e) l := rfl
theorem good_snoc : ∀ (l : List En) (s : St) (e : En), goodb s (l ++ [e]) = (goodb s l && decide (err (run s l) e = 0))
  | [], s, e => by rw [List.nil_append, goodb, goodb, goodb, Bool.and_true, Bool.true_and]; rfl
  | a :: l, s, e => by rw [List.cons_append, goodb, good_snoc l, goodb, run_cons, Bool.and_assoc]
theorem run_n : ∀ (l : List En) (s : St), (run s l).n = s.n + l.length
  | [], s => by simp [run]
  | e :: l, s => by rw [run_cons, run_n l, List.length_cons]; show s.n + 1 + _ = _; omega
theorem err_size {s : St} {e : En} (h : err s e = 0) : e.key.size ≤ 1024 ∧ e.val.size ≤ 1024 := by
  unfold err at h
  split at h
  · omega
  · omega
theorem err_less {s : St} {e : En} (h : err s e = 0) : s.n = 0 ∨ Op.bytesLess s.last.data.toList e.key.data.toList = true := by
  unfold err at h
  split at h
  · omega
  · split at h
    · omega
    · rename_i h2
      by_cases h0 : s.n = 0
      · exact Or.inl h0
      · right
        cases hb : Op.bytesLess s.last.data.toList e.key.data.toList with
        | true => rfl
        | false => exact absurd ⟨h0, hb⟩ h2
theorem txt_length (s : List UInt8) : 1 ≤ (txt s).length ∧ (txt s).length ≤ 9 + s.length ∧ s.length ≤ (txt s).length := by
  have := Nm.row_length s.length
  unfold txt
  rw [List.length_append]
  omega
theorem len (s : ByteArray) : s.data.toList.length = s.size := by simp
theorem one_length (s : St) (e : En) : 3 + e.val.size ≤ (one s e).length ∧ (one s e).length ≤ 27 + e.key.size + e.val.size := by
  have h1 := Nm.row_length (sh s e.key)
  have h2 := txt_length (e.key.data.toList.drop (sh s e.key))
  have h3 := txt_length e.val.data.toList
  have h4 := Nm.row_length e.val.data.toList.length
  have h5 : (txt e.val.data.toList).length = (Nm.row e.val.data.toList.length).length + e.val.data.toList.length := by unfold txt; rw [List.length_append]
  rw [List.length_drop, len] at h2
  rw [len] at h3 h4 h5
  unfold one
  rw [List.length_append, List.length_append]
  omega

/-! ### The bytes, read again -/

/-- The entry that a text begins with, behind a key. -/
def rdE (s ahead : List UInt8) : Option (En × Nat) :=
  match Nm.rv s with
  | none => none
  | some (n, a) => if ahead.length < n then none else match rt (s.drop a) 1024 with
    | none => none
    | some (r, b) => match rt (s.drop (a + b)) 1024 with
      | none => none
      | some (v, c) => some (⟨⟨(ahead.take n ++ r).toArray⟩, ⟨v.toArray⟩⟩, a + b + c)
/-- So many entries, the i-th one first. -/
def rds : Nat → Nat → List UInt8 → List UInt8 → Option (List En)
  | 0, _, _, _ => some []
  | n + 1, i, p, s => match rdE s (if i % 4 = 0 then [] else p) with
    | none => none
    | some (e, k) => match rds n (i + 1) e.key.data.toList (s.drop k) with
      | none => none
      | some l => some (e :: l)
/-- As the document reads them. -/
def rdsR : Nat → St → List UInt8 → Option (List En)
  | 0, _, _ => some []
  | n + 1, p, s => match rdE s p.last.data.toList with
    | none => none
    | some (e, k) => if err p e = 0 then (match rdsR n (step p e) (s.drop k) with
      | none => none
      | some l => some (e :: l)) else none
def rows : St → List En → List UInt8
  | _, [] => []
  | s, e :: l => one s e ++ rows (step s e) l
theorem run_rows : ∀ (l : List En) (s : St), (run s l).rows = s.rows ++ rows s l
  | [], s => by simp [run, rows]
  | e :: l, s => by rw [run_cons, run_rows l, rows, ← List.append_assoc]; rfl
theorem rt_txt (s t : List UInt8) (hs : s.length ≤ 1024) : rt (txt s ++ t) 1024 = some (s, (txt s).length) := by
  unfold rt txt
  rw [List.append_assoc, Nm.rv_row (by omega)]
  simp only
  rw [if_neg (by simp; omega)]
  simp
theorem txt_rt {l t : List UInt8} {most : Int} {k : Nat} (h : rt l most = some (t, k)) : 1 ≤ k ∧ k ≤ l.length ∧ l.take k = txt t ∧ (t.length : Int) ≤ most := by
  unfold rt at h
  cases hv : Nm.rv l with
  | none => rw [hv] at h; cases h
  | some x =>
    obtain ⟨n, j⟩ := x
    rw [hv] at h
    simp only at h
    split at h
    · cases h
    · rename_i hc
      simp only [Option.some.injEq, Prod.mk.injEq] at h
      obtain ⟨rfl, rfl⟩ := h
      obtain ⟨h1, h2, h3, h4⟩ := Nm.row_rv hv
      have hl : ((l.drop j).take n).length = n := by rw [List.length_take, List.length_drop]; omega
      refine ⟨by omega, by omega, ?_, by rw [hl]; omega⟩
      unfold txt
      rw [hl, h3, List.take_add]
theorem rdE_take {s p : List UInt8} {e : En} {k : Nat} (h : rdE s p = some (e, k)) : 3 ≤ k ∧ k ≤ s.length ∧ e.val.size ≤ 1024 ∧ e.key.size + p.length ≤ 2 * p.length + 1024 := by
  unfold rdE at h
  cases hv : Nm.rv s with
  | none => rw [hv] at h; cases h
  | some x =>
    obtain ⟨n, a⟩ := x
    rw [hv] at h
    simp only at h
    split at h
    · cases h
    · rename_i hc
      cases h1 : rt (s.drop a) 1024 with
      | none => rw [h1] at h; cases h
      | some y =>
        obtain ⟨r, b⟩ := y
        rw [h1] at h
        simp only at h
        cases h2 : rt (s.drop (a + b)) 1024 with
        | none => rw [h2] at h; cases h
        | some z =>
          obtain ⟨v, c⟩ := z
          rw [h2] at h
          simp only [Option.some.injEq, Prod.mk.injEq] at h
          obtain ⟨rfl, rfl⟩ := h
          obtain ⟨a1, a2, _, _⟩ := Nm.row_rv hv
          obtain ⟨b1, b2, _, b4⟩ := txt_rt h1
          obtain ⟨c1, c2, _, c4⟩ := txt_rt h2
          rw [List.length_drop] at b2 c2
          refine ⟨by omega, by omega, ?_, ?_⟩
          · show v.toArray.size ≤ 1024
            rw [List.size_toArray]; omega
          · have : (⟨(p.take n ++ r).toArray⟩ : ByteArray).size = (p.take n ++ r).length := by show (p.take n ++ r).toArray.size = _; rw [List.size_toArray]
            rw [this, List.length_append, List.length_take]
            omega
theorem sh_le (s : St) (k : ByteArray) : sh s k ≤ k.size ∧ sh s k ≤ s.last.size := by
  have := cm_le s.last.data.toList k.data.toList
  rw [len, len] at this
  unfold sh
  split <;> omega
theorem sh_take (s : St) (k : ByteArray) : s.last.data.toList.take (sh s k) = k.data.toList.take (sh s k) := by
  unfold sh
  split
  · simp
  · exact (cm_take _ _).symm
theorem rdE_one (s : St) (e : En) (p t : List UInt8) (h : err s e = 0) (hp : p = s.last.data.toList ∨ (s.n % 4 = 0 ∧ p = [])) : rdE (one s e ++ t) p = some (e, (one s e).length) := by
  obtain ⟨hk, hv⟩ := err_size h
  obtain ⟨s1, s2⟩ := sh_le s e.key
  have ht := sh_take s e.key
  have hpl : ¬ p.length < sh s e.key := by
    rcases hp with rfl | ⟨h0, rfl⟩
    · rw [len]; omega
    · unfold sh; rw [if_pos h0]; simp
  have hpt : p.take (sh s e.key) = e.key.data.toList.take (sh s e.key) := by
    rcases hp with rfl | ⟨h0, rfl⟩
    · exact ht
    · unfold sh; rw [if_pos h0]; simp
  unfold rdE one
  rw [List.append_assoc, Nm.rv_row (by omega)]
  simp only
  rw [if_neg hpl, List.drop_left, List.append_assoc, rt_txt _ _ (by rw [List.length_drop, len]; omega)]
  simp only
  rw [show Nm.row (sh s e.key) ++ (txt (e.key.data.toList.drop (sh s e.key)) ++ (txt e.val.data.toList ++ t)) = (Nm.row (sh s e.key) ++ txt (e.key.data.toList.drop (sh s e.key))) ++ (txt e.val.data.toList ++ t) from (List.append_assoc _ _ _).symm]
  rw [← List.length_append, List.drop_left, rt_txt _ _ (by rw [len]; omega)]
  simp only [hpt, List.take_append_drop, List.length_append, Nat.add_assoc]
theorem rds_rows : ∀ (l : List En) (s : St) (t : List UInt8), goodb s l = true → rds l.length s.n s.last.data.toList (rows s l ++ t) = some l
  | [], s, t, _ => rfl
  | e :: l, s, t, h => by
    rw [goodb, Bool.and_eq_true, decide_eq_true_eq] at h
    have hp : (if s.n % 4 = 0 then [] else s.last.data.toList) = s.last.data.toList ∨ (s.n % 4 = 0 ∧ (if s.n % 4 = 0 then [] else s.last.data.toList) = []) := by
      by_cases h0 : s.n % 4 = 0
      · exact Or.inr ⟨h0, if_pos h0⟩
      · exact Or.inl (if_neg h0)
    rw [List.length_cons, rds, rows, List.append_assoc, rdE_one s e _ _ h.1 hp]
    simp only [List.drop_left]
    have := rds_rows l (step s e) t h.2
    rw [show (step s e).n = s.n + 1 from rfl, show (step s e).last = e.key from rfl] at this
    rw [this]
theorem rdsR_rows : ∀ (l : List En) (s : St) (t : List UInt8), goodb s l = true → rdsR l.length s (rows s l ++ t) = some l
  | [], s, t, _ => rfl
  | e :: l, s, t, h => by
    rw [goodb, Bool.and_eq_true, decide_eq_true_eq] at h
    rw [List.length_cons, rdsR, rows, List.append_assoc, rdE_one s e _ _ h.1 (Or.inl rfl)]
    simp only [List.drop_left]
    rw [if_pos h.1, rdsR_rows l (step s e) t h.2]
theorem rdsR_good : ∀ (n : Nat) (s : St) (x : List UInt8) (l : List En), rdsR n s x = some l → goodb s l = true ∧ l.length = n
  | 0, s, x, l, h => by
    rw [rdsR] at h
    simp only [Option.some.injEq] at h
    subst h
    exact ⟨rfl, rfl⟩
  | n + 1, s, x, l, h => by
    rw [rdsR] at h
    cases h1 : rdE x s.last.data.toList with
    | none => rw [h1] at h; cases h
    | some y =>
      obtain ⟨e, k⟩ := y
      rw [h1] at h
      simp only at h
      split at h
      · rename_i h0
        cases h2 : rdsR n (step s e) (x.drop k) with
        | none => rw [h2] at h; cases h
        | some l2 =>
          rw [h2] at h
          simp only [Option.some.injEq] at h
          subst h
          obtain ⟨g1, g2⟩ := rdsR_good n _ _ _ h2
          exact ⟨by rw [goodb, decide_eq_true h0, g1]; rfl, by rw [List.length_cons, g2]⟩
      · cases h
theorem rds_length : ∀ (n i : Nat) (p x : List UInt8) (l : List En), rds n i p x = some l → l.length = n
  | 0, _, _, _, l, h => by
    rw [rds] at h
    simp only [Option.some.injEq] at h
    subst h
    rfl
  | n + 1, i, p, x, l, h => by
    rw [rds] at h
    cases h1 : rdE x (if i % 4 = 0 then [] else p) with
    | none => rw [h1] at h; cases h
    | some y =>
      obtain ⟨e, k⟩ := y
      rw [h1] at h
      simp only at h
      cases h2 : rds n (i + 1) e.key.data.toList (x.drop k) with
      | none => rw [h2] at h; cases h
      | some l2 =>
        rw [h2] at h
        simp only [Option.some.injEq] at h
        subst h
        rw [List.length_cons, rds_length n _ _ _ _ h2]

/-- The entries' bytes, and how many entries there are said to be. -/
def parts (s : List UInt8) : Option (List UInt8 × Nat) :=
  if s.length < 4 then none
  else if s.length - 4 < (Nm.val (s.drop (s.length - 4)) + 3) / 4 * 4 then none
  else some (s.take (s.length - 4 - (Nm.val (s.drop (s.length - 4)) + 3) / 4 * 4), Nm.val (s.drop (s.length - 4)))
def bld (l : List En) : List UInt8 := if goodb st0 l = true then bytes l else []
/-- What Open opens. -/
def opn (s : List UInt8) : Option (List En) :=
  match parts s with
  | none => none
  | some (r, n) => match rds n 0 [] r with
    | none => none
    | some l => if bld l = s then some l else none
/-- What the document opens. -/
def opnR (s : List UInt8) : Option (List En) :=
  if s.length < 4 then none
  else if s.length < Nm.val (s.drop (s.length - 4)) then none
  else match rdsR (Nm.val (s.drop (s.length - 4))) st0 s with
    | none => none
    | some l => if bytes l = s then some l else none

theorem foot_length : ∀ (l : List En) (s : St), s.foot.length = (s.n + 3) / 4 * 4 → (run s l).foot.length = ((run s l).n + 3) / 4 * 4
  | [], s, h => h
  | e :: l, s, h => by
    rw [run_cons]
    refine foot_length l _ ?_
    show (ftn s).length = (s.n + 1 + 3) / 4 * 4
    unfold ftn
    split
    · rw [List.length_append, Nm.big_length]; omega
    · omega
theorem rows_least : ∀ (l : List En) (s : St), 3 * l.length ≤ (rows s l).length
  | [], _ => by simp
  | e :: l, s => by
    have h1 := rows_least l (step s e)
    have h2 := one_length s e
    rw [rows, List.length_append, List.length_cons]
    omega
theorem fin_length (s : St) : (fin s).length = s.rows.length + s.foot.length + 4 := by
  unfold fin
  rw [List.length_append, List.length_append, Nm.big_length]
  omega
theorem bytes_last (l : List En) (h : l.length < 4294967296) : Nm.val ((bytes l).drop ((bytes l).length - 4)) = l.length ∧ 4 ≤ (bytes l).length ∧ (bytes l).length = (rows st0 l).length + (l.length + 3) / 4 * 4 + 4 ∧ ∃ t, bytes l = rows st0 l ++ t := by
  have e1 := fin_length (run st0 l)
  have e2 := foot_length l st0 rfl
  have e3 := run_rows l st0
  have e4 : (run st0 l).n = l.length := by rw [run_n]; show 0 + _ = _; omega
  rw [e4] at e2
  rw [show st0.rows = [] from rfl, List.nil_append] at e3
  rw [e3, e2] at e1
  have e5 : bytes l = rows st0 l ++ ((run st0 l).foot ++ Nm.big l.length 4) := by unfold bytes fin; rw [e3, e4]
  refine ⟨?_, by unfold bytes; omega, e1, _, e5⟩
  have e6 : (bytes l).length - 4 = (rows st0 l ++ (run st0 l).foot).length := by rw [List.length_append, e2]; unfold bytes; omega
  rw [e6, e5, ← List.append_assoc, List.drop_left, Nm.val_big, Nat.mod_eq_of_lt (by simpa using h)]
/-- A block is opened of its bytes. -/
theorem opn_bytes (l : List En) (h : goodb st0 l = true) (hl : l.length < 4294967296) : opn (bytes l) = some l := by
  obtain ⟨h1, h2, h3, t, h4⟩ := bytes_last l hl
  unfold opn parts
  rw [if_neg (by omega), h1, if_neg (by omega)]
  simp only
  have e : (bytes l).take ((bytes l).length - 4 - (l.length + 3) / 4 * 4) = rows st0 l := by
    rw [show (bytes l).length - 4 - (l.length + 3) / 4 * 4 = (rows st0 l).length by omega]
    conv => lhs; rw [h4]
    exact List.take_left
  have h5 := rds_rows l st0 [] h
  rw [List.append_nil, show st0.n = 0 from rfl, show st0.last.data.toList = [] from rfl] at h5
  rw [e, h5]
  simp only
  rw [bld, if_pos h, if_pos rfl]
theorem opnR_bytes (l : List En) (h : goodb st0 l = true) (hl : l.length < 4294967296) : opnR (bytes l) = some l := by
  obtain ⟨h1, h2, h3, t, h4⟩ := bytes_last l hl
  have h6 := rows_least l st0
  unfold opnR
  rw [if_neg (by omega), h1, if_neg (by omega)]
  have h5 := rdsR_rows l st0 t h
  rw [← h4] at h5
  rw [h5]
  simp only
  rw [if_pos trivial]
theorem opn_some {s : List UInt8} {l : List En} (h : opn s = some l) : goodb st0 l = true ∧ bytes l = s := by
  unfold opn at h
  cases hp : parts s with
  | none => rw [hp] at h; cases h
  | some x =>
    obtain ⟨r, n⟩ := x
    rw [hp] at h
    simp only at h
    cases hr : rds n 0 [] r with
    | none => rw [hr] at h; cases h
    | some l' =>
      rw [hr] at h
      simp only at h
      by_cases hb : bld l' = s
      · rw [if_pos hb] at h
        simp only [Option.some.injEq] at h
        subst h
        unfold bld at hb
        cases hg : goodb st0 l' with
        | true => rw [if_pos hg] at hb; exact ⟨rfl, hb⟩
        | false =>
          rw [if_neg (by rw [hg]; decide)] at hb
          subst hb
          cases hp
      · rw [if_neg hb] at h
        cases h
theorem opnR_some {s : List UInt8} {l : List En} (h : opnR s = some l) : goodb st0 l = true ∧ bytes l = s := by
  unfold opnR at h
  split at h
  · cases h
  · split at h
    · cases h
    · split at h
      · cases h
      · split at h
        · rename_i l' hr hb
          simp only [Option.some.injEq] at h
          subst h
          exact ⟨(rdsR_good _ _ _ _ hr).1, hb⟩
        · cases h
theorem few {l : List En} {s : List UInt8} (h : bytes l = s) (hs : s.length < 4294967296) : l.length < 4294967296 := by
  have e1 := fin_length (run st0 l)
  have e3 := run_rows l st0
  have e4 := rows_least l st0
  rw [show st0.rows = [] from rfl, List.nil_append] at e3
  rw [e3] at e1
  have : (bytes l).length = (fin (run st0 l)).length := rfl
  rw [h] at this
  omega
/-- The code and the document open the same. -/
theorem opnR_eq (s : List UInt8) (hs : s.length < 4294967296) : opnR s = opn s := by
  cases h : opn s with
  | some l =>
    obtain ⟨h1, h2⟩ := opn_some h
    have := opnR_bytes l h1 (few h2 hs)
    rw [h2] at this
    exact this
  | none =>
    cases h2 : opnR s with
    | none => rfl
    | some l =>
      obtain ⟨h3, h4⟩ := opnR_some h2
      have := opn_bytes l h3 (few h4 hs)
      rw [h4, h] at this
      cases this

end Bo
end Go.Proofs.Ytjpmcphfiiiecaa
