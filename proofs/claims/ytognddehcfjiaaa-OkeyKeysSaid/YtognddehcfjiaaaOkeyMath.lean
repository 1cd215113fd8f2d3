/- Plain facts on keys: their order, their beginnings, what is read of them. -/
import Derived.Test.YtognddehcfjiaaaOkeyJ
namespace Go.Proofs.Ytognddehcfjiaaa
open Go.RowKit
set_option linter.unusedVariables false

theorem parts_pre {x y : List UInt8} (p : List UInt8) (h : Nm.Parts x y) : Nm.Parts (p ++ x) (p ++ y) := by
  induction p with
  | nil => exact h
  | cons b p ih => exact Nm.parts_cons b ih
theorem parts_behind {x y : List UInt8} (h : Nm.Parts x y) (s t : List UInt8) : Nm.Parts (x ++ s) (y ++ t) := by
  obtain ⟨p, c, d, u, v, rfl, rfl, h⟩ := h
  exact ⟨p, c, d, u ++ s, v ++ t, by simp, by simp, h⟩
theorem parts_not_pre {x y : List UInt8} (h : Nm.Parts x y) : ¬ x <+: y ∧ ¬ y <+: x := by
  obtain ⟨p, c, d, u, v, rfl, rfl, h⟩ := h
  have key : ∀ (p : List UInt8) (c d : UInt8) (u v : List UInt8), p ++ c :: u <+: p ++ d :: v → c = d := by
    intro p
    induction p with
    | nil => intro c d u v h; simp only [List.nil_append, List.cons_prefix_cons] at h; exact h.1
    | cons b p ih => intro c d u v h; simp only [List.cons_append, List.cons_prefix_cons] at h; exact ih c d u v h.2
  refine ⟨fun e => ?_, fun e => ?_⟩
  · rw [key _ _ _ _ _ e] at h; omega
  · rw [key _ _ _ _ _ e] at h; omega

theorem compareBytes_cases : ∀ (x y : List UInt8), (Lib.compareBytes x y = 0 ∧ x = y) ∨ (Lib.compareBytes x y = -1 ∧ Lib.compareBytes y x = 1 ∧ ∀ s t, Nm.Parts (esc x ++ 0 :: 1 :: s) (esc y ++ 0 :: 1 :: t)) ∨ (Lib.compareBytes x y = 1 ∧ Lib.compareBytes y x = -1 ∧ ∀ s t, Nm.Parts (esc y ++ 0 :: 1 :: s) (esc x ++ 0 :: 1 :: t))
  | [], [] => Or.inl ⟨rfl, rfl⟩
  | [], b :: y => by
    refine Or.inr (Or.inl ⟨rfl, rfl, fun s t => ?_⟩)
    by_cases hb : b = 0
    · subst hb
      exact ⟨[0], 1, 255, s, esc y ++ 0 :: 1 :: t, rfl, by simp [esc, esc1], by decide⟩
    · refine ⟨[], 0, b, 1 :: s, esc y ++ 0 :: 1 :: t, rfl, by simp [esc, esc1, hb], ?_⟩
      have : b.toNat ≠ 0 := fun e => hb (UInt8.toNat.inj e)
      show 0 < b.toNat
      omega
  | a :: x, [] => by
    refine Or.inr (Or.inr ⟨rfl, rfl, fun s t => ?_⟩)
    by_cases hb : a = 0
    · subst hb
      exact ⟨[0], 1, 255, s, esc x ++ 0 :: 1 :: t, rfl, by simp [esc, esc1], by decide⟩
    · refine ⟨[], 0, a, 1 :: s, esc x ++ 0 :: 1 :: t, rfl, by simp [esc, esc1, hb], ?_⟩
      have : a.toNat ≠ 0 := fun e => hb (UInt8.toNat.inj e)
      show 0 < a.toNat
      omega
  | a :: x, b :: y => by
    have lt_case : ∀ (a b : UInt8) (x y s t : List UInt8), a < b → Nm.Parts (esc (a :: x) ++ 0 :: 1 :: s) (esc (b :: y) ++ 0 :: 1 :: t) := by
      intro a b x y s t h
      have h' := UInt8.lt_iff_toNat_lt.1 h
      have hb : b ≠ 0 := fun e => by rw [e] at h'; simp at h'
      by_cases ha : a = 0
      · subst ha
        exact ⟨[], 0, b, 255 :: (esc x ++ 0 :: 1 :: s), esc y ++ 0 :: 1 :: t, by simp [esc, esc1], by simp [esc, esc1, hb], h'⟩
      · exact ⟨[], a, b, esc x ++ 0 :: 1 :: s, esc y ++ 0 :: 1 :: t, by simp [esc, esc1, ha], by simp [esc, esc1, hb], h'⟩
    by_cases h1 : a < b
    · have h2 : ¬ b < a := fun h => by have := UInt8.lt_iff_toNat_lt.1 h; have := UInt8.lt_iff_toNat_lt.1 h1; omega
      exact Or.inr (Or.inl ⟨by simp [Lib.compareBytes, h1], by simp [Lib.compareBytes, h1, h2], fun s t => lt_case a b x y s t h1⟩)
    · by_cases h2 : b < a
      · exact Or.inr (Or.inr ⟨by simp [Lib.compareBytes, h1, h2], by simp [Lib.compareBytes, h2], fun s t => lt_case b a y x s t h2⟩)
      · have e : a = b := UInt8.toNat.inj (by
          have h1' : ¬ a.toNat < b.toNat := fun h => h1 (UInt8.lt_iff_toNat_lt.2 h)
          have h2' : ¬ b.toNat < a.toNat := fun h => h2 (UInt8.lt_iff_toNat_lt.2 h)
          omega)
        subst e
        have e2 : ∀ (z s : List UInt8), esc (a :: z) ++ 0 :: 1 :: s = esc1 a ++ (esc z ++ 0 :: 1 :: s) := fun z s => by simp [esc]
        rcases compareBytes_cases x y with ⟨h, rfl⟩ | ⟨h, h', hp⟩ | ⟨h, h', hp⟩
        · exact Or.inl ⟨by simp [Lib.compareBytes, h1, h], rfl⟩
        · exact Or.inr (Or.inl ⟨by simp [Lib.compareBytes, h1, h], by simp [Lib.compareBytes, h1, h'], fun s t => by rw [e2, e2]; exact parts_pre _ (hp s t)⟩)
        · exact Or.inr (Or.inr ⟨by simp [Lib.compareBytes, h1, h], by simp [Lib.compareBytes, h1, h'], fun s t => by rw [e2, e2]; exact parts_pre _ (hp s t)⟩)

theorem ptl_num (s : ByteArray) (n : Nat) : ptl ⟨false, s, n⟩ = 1 :: Nm.row n := by simp [ptl]
theorem ptl_text (s : ByteArray) (n : Nat) : ptl ⟨true, s, n⟩ = 2 :: (esc s.data.toList ++ [0, 1]) := by simp [ptl]
theorem toList_inj {a b : ByteArray} (h : a.data.toList = b.data.toList) : a = b := ByteArray.ext (Array.toList_inj.1 h)

/-- Two parts: alike, or the one's bytes part ahead of the other's. -/
theorem cmpPt_cases (p q : Pt) (hp : p.n < 18446744073709551616) (hq : q.n < 18446744073709551616) :
    (cmpPt p q = 0 ∧ cmpPt q p = 0 ∧ plainP p = plainP q) ∨ (cmpPt p q = -1 ∧ cmpPt q p = 1 ∧ Nm.Parts (ptl p) (ptl q)) ∨ (cmpPt p q = 1 ∧ cmpPt q p = -1 ∧ Nm.Parts (ptl q) (ptl p)) := by
  obtain ⟨pt, ps, pn⟩ := p
  obtain ⟨qt, qs, qn⟩ := q
  dsimp only at hp hq
  cases pt <;> cases qt
  · rw [ptl_num, ptl_num]
    unfold cmpPt cmpN plainP
    dsimp only
    rcases Nat.lt_trichotomy pn qn with h | h | h
    · exact Or.inr (Or.inl ⟨by rw [if_pos (by omega)], by rw [if_neg (by omega), if_pos (by omega)], Nm.parts_cons _ (Nm.parts_row h hq)⟩)
    · subst h
      exact Or.inl ⟨by simp, by simp, by simp⟩
    · exact Or.inr (Or.inr ⟨by rw [if_neg (by omega), if_pos (by omega)], by rw [if_pos (by omega)], Nm.parts_cons _ (Nm.parts_row h hp)⟩)
  · rw [ptl_num, ptl_text]
    exact Or.inr (Or.inl ⟨rfl, rfl, [], 1, 2, _, _, rfl, rfl, by decide⟩)
  · rw [ptl_num, ptl_text]
    exact Or.inr (Or.inr ⟨rfl, rfl, [], 1, 2, _, _, rfl, rfl, by decide⟩)
  · rw [ptl_text, ptl_text]
    show (Lib.compareBytes _ _ = 0 ∧ Lib.compareBytes _ _ = 0 ∧ _) ∨ (Lib.compareBytes _ _ = -1 ∧ Lib.compareBytes _ _ = 1 ∧ _) ∨ (Lib.compareBytes _ _ = 1 ∧ Lib.compareBytes _ _ = -1 ∧ _)
    rcases compareBytes_cases ps.data.toList qs.data.toList with ⟨h, e⟩ | ⟨h, h', hp⟩ | ⟨h, h', hp⟩
    · have e2 := toList_inj e
      subst e2
      exact Or.inl ⟨h, h, by simp [plainP]⟩
    · exact Or.inr (Or.inl ⟨h, h', Nm.parts_cons _ (hp [] [])⟩)
    · exact Or.inr (Or.inr ⟨h, h', Nm.parts_cons _ (hp [] [])⟩)

theorem ptl_plain (p : Pt) : ptl (plainP p) = ptl p := by
  obtain ⟨t, s, n⟩ := p
  cases t <;> simp [plainP, ptl]
theorem keyl_plain (ps : List Pt) : keyl (ps.map plainP) = keyl ps := by
  induction ps with
  | nil => rfl
  | cons p ps ih => simp only [keyl, List.map_cons, List.flatMap_cons, ptl_plain] at ih ⊢; rw [ih]
theorem keyl_cons (p : Pt) (ps : List Pt) : keyl (p :: ps) = ptl p ++ keyl ps := rfl
theorem keyl_append (a b : List Pt) : keyl (a ++ b) = keyl a ++ keyl b := by simp [keyl]
theorem ptl_head (p : Pt) : ∃ c r, ptl p = c :: r ∧ c.toNat < 3 := by
  obtain ⟨t, s, n⟩ := p
  cases t
  · rw [ptl_num]; exact ⟨1, _, rfl, by decide⟩
  · rw [ptl_text]; exact ⟨2, _, rfl, by decide⟩

def OkN (ps : List Pt) : Prop := ∀ p ∈ ps, p.n < 18446744073709551616
theorem OkN.tail {p : Pt} {ps : List Pt} (h : OkN (p :: ps)) : p.n < 18446744073709551616 ∧ OkN ps := ⟨h p (by simp), fun q hq => h q (by simp [hq])⟩
theorem OkN.of {ps : List Pt} (h : ∀ i, (ps.getD i pd).n < 18446744073709551616) : OkN ps := by
  intro p hp
  obtain ⟨i, hi, rfl⟩ := List.getElem_of_mem hp
  have := h i
  simpa [hi] using this
theorem OkN.get {ps : List Pt} (h : OkN ps) (i : Nat) : (ps.getD i pd).n < 18446744073709551616 := by
  by_cases hi : i < ps.length
  · have e : ps.getD i pd = ps[i] := by simp [hi]
    rw [e]; exact h _ (List.getElem_mem hi)
  · have e : ps.getD i pd = pd := by simp [hi]
    rw [e]; decide

/-- Two lists of parts, and their keys. -/
inductive Tri (a b : List Pt) : Prop
  | same (h : a.map plainP = b.map plainP) (h1 : cmpL a b = 0) (h2 : cmpL b a = 0)
  | less (h : Nm.Parts (keyl a) (keyl b)) (h1 : cmpL a b = -1) (h2 : cmpL b a = 1)
  | more (h : Nm.Parts (keyl b) (keyl a)) (h1 : cmpL a b = 1) (h2 : cmpL b a = -1)
  | ahead (t : Pt) (r : List Pt) (h : b.map plainP = a.map plainP ++ (t :: r).map plainP) (h1 : cmpL a b = -1) (h2 : cmpL b a = 1)
  | behind (t : Pt) (r : List Pt) (h : a.map plainP = b.map plainP ++ (t :: r).map plainP) (h1 : cmpL a b = 1) (h2 : cmpL b a = -1)

theorem tri : ∀ (a b : List Pt), OkN a → OkN b → Tri a b
  | [], [], _, _ => .same rfl rfl rfl
  | [], q :: b, _, _ => .ahead q b rfl rfl rfl
  | p :: a, [], _, _ => .behind p a rfl rfl rfl
  | p :: a, q :: b, ha, hb => by
    obtain ⟨hp, ha'⟩ := ha.tail
    obtain ⟨hq, hb'⟩ := hb.tail
    rcases cmpPt_cases p q hp hq with ⟨h, h', e⟩ | ⟨h, h', e⟩ | ⟨h, h', e⟩
    · have e1 : cmpL (p :: a) (q :: b) = cmpL a b := by rw [cmpL, if_pos h]
      have e2 : cmpL (q :: b) (p :: a) = cmpL b a := by rw [cmpL, if_pos h']
      have ek : ptl p = ptl q := by rw [← ptl_plain p, ← ptl_plain q, e]
      rcases tri a b ha' hb' with ⟨t, h1, h2⟩ | ⟨t, h1, h2⟩ | ⟨t, h1, h2⟩ | ⟨t, r, hh, h1, h2⟩ | ⟨t, r, hh, h1, h2⟩
      · exact .same (by rw [List.map_cons, List.map_cons, e, t]) (e1.trans h1) (e2.trans h2)
      · exact .less (by rw [keyl_cons, keyl_cons, ek]; exact parts_pre _ t) (e1.trans h1) (e2.trans h2)
      · exact .more (by rw [keyl_cons, keyl_cons, ek]; exact parts_pre _ t) (e1.trans h1) (e2.trans h2)
      · exact .ahead t r (by rw [List.map_cons, List.map_cons, e, hh, List.cons_append]) (e1.trans h1) (e2.trans h2)
      · exact .behind t r (by rw [List.map_cons, List.map_cons, e, hh, List.cons_append]) (e1.trans h1) (e2.trans h2)
    · exact .less (parts_behind e _ _) (by rw [cmpL, if_neg (by omega), h]) (by rw [cmpL, if_neg (by omega), h'])
    · exact .more (parts_behind e _ _) (by rw [cmpL, if_neg (by omega), h]) (by rw [cmpL, if_neg (by omega), h'])

theorem bytesLess_more : ∀ (x : List UInt8) (c : UInt8) (u : List UInt8), Op.bytesLess x (x ++ c :: u) = true ∧ Op.bytesLess (x ++ c :: u) x = false
  | [], c, u => ⟨rfl, rfl⟩
  | b :: x, c, u => by
    have hb : ¬ b < b := fun x => by have := UInt8.lt_iff_toNat_lt.1 x; omega
    have := bytesLess_more x c u
    simp [Op.bytesLess, hb, this.1, this.2]
theorem bytesLess_of_parts {x y : List UInt8} (h : Nm.Parts x y) : Op.bytesLess x y = true ∧ Op.bytesLess y x = false := by
  have := Nm.bytesLess_parts h [] []
  simpa using this

/-- How keys stand, in the order's own words. -/
theorem key_order (a b : List Pt) (ha : OkN a) (hb : OkN b) :
    cmpL a b = (if Op.bytesLess (keyl b) (keyl a) = true then 1 else if Op.bytesLess (keyl a) (keyl b) = true then -1 else 0) ∧ cmpL b a = - cmpL a b := by
  rcases tri a b ha hb with ⟨t, h1, h2⟩ | ⟨t, h1, h2⟩ | ⟨t, h1, h2⟩ | ⟨t, r, hh, h1, h2⟩ | ⟨t, r, hh, h1, h2⟩
  · have e : keyl a = keyl b := by rw [← keyl_plain a, ← keyl_plain b, t]
    rw [e, Nm.bytesLess_self, h1, h2]; simp
  · have := bytesLess_of_parts t
    rw [this.1, this.2, h1, h2]; simp
  · have := bytesLess_of_parts t
    rw [this.1, this.2, h1, h2]; simp
  · obtain ⟨c, u, hc, _⟩ := ptl_head (plainP t)
    have e : keyl b = keyl a ++ c :: (u ++ keyl (r.map plainP)) := by rw [← keyl_plain b, hh, keyl_append, keyl_plain a, List.map_cons, keyl_cons, hc]; rfl
    have := bytesLess_more (keyl a) c (u ++ keyl (r.map plainP))
    rw [e, this.1, this.2, h1, h2]; simp
  · obtain ⟨c, u, hc, _⟩ := ptl_head (plainP t)
    have e : keyl a = keyl b ++ c :: (u ++ keyl (r.map plainP)) := by rw [← keyl_plain a, hh, keyl_append, keyl_plain b, List.map_cons, keyl_cons, hc]; rfl
    have := bytesLess_more (keyl b) c (u ++ keyl (r.map plainP))
    rw [e, this.1, this.2, h1, h2]; simp

/-- A key is the beginning of another one just if its list is. -/
theorem key_begins (a b : List Pt) (ha : OkN a) (hb : OkN b) : keyl a <+: keyl b ↔ a.map plainP <+: b.map plainP := by
  constructor
  · intro h
    rcases tri a b ha hb with ⟨t, h1, h2⟩ | ⟨t, h1, h2⟩ | ⟨t, h1, h2⟩ | ⟨t, r, hh, h1, h2⟩ | ⟨t, r, hh, h1, h2⟩
    · rw [t]; exact List.prefix_refl _
    · exact absurd h (parts_not_pre t).1
    · exact absurd h (parts_not_pre t).2
    · rw [hh]; exact List.prefix_append _ _
    · exfalso
      obtain ⟨c, u, hc, _⟩ := ptl_head (plainP t)
      have e : keyl a = keyl b ++ c :: (u ++ keyl (r.map plainP)) := by rw [← keyl_plain a, hh, keyl_append, keyl_plain b, List.map_cons, keyl_cons, hc]; rfl
      have := h.length_le
      rw [e, List.length_append, List.length_cons] at this
      omega
  · rintro ⟨t, ht⟩
    refine ⟨keyl t, ?_⟩
    rw [← keyl_plain a, ← keyl_plain b, ← ht, keyl_append]

/-- In the range of a list lie just the keys of the lists that begin with it. -/
theorem key_range (a b : List Pt) (ha : OkN a) (hb : OkN b) :
    (!Op.bytesLess (keyl b) (keyl a) && Op.bytesLess (keyl b) (keyl a ++ [3])) = true ↔ a.map plainP <+: b.map plainP := by
  rcases tri a b ha hb with ⟨t, h1, h2⟩ | ⟨t, h1, h2⟩ | ⟨t, h1, h2⟩ | ⟨t, r, hh, h1, h2⟩ | ⟨t, r, hh, h1, h2⟩
  · have e : keyl a = keyl b := by rw [← keyl_plain a, ← keyl_plain b, t]
    rw [e, Nm.bytesLess_self, (bytesLess_more (keyl b) 3 []).1, t]
    simp
  · have h := Nm.bytesLess_parts t [3] []
    rw [List.append_nil] at h
    rw [h.2]
    simp only [Bool.and_false, Bool.false_eq_true, false_iff]
    exact fun h => (parts_not_pre t).1 ((key_begins a b ha hb).2 h)
  · have h := bytesLess_of_parts t
    rw [h.1]
    simp only [Bool.not_true, Bool.false_and, Bool.false_eq_true, false_iff]
    exact fun h => (parts_not_pre t).2 ((key_begins a b ha hb).2 h)
  · obtain ⟨c, u, hc, h3⟩ := ptl_head (plainP t)
    have e : keyl b = keyl a ++ c :: (u ++ keyl (r.map plainP)) := by rw [← keyl_plain b, hh, keyl_append, keyl_plain a, List.map_cons, keyl_cons, hc]; rfl
    have hp : Nm.Parts (keyl b) (keyl a ++ [3]) := ⟨keyl a, c, 3, _, [], e, rfl, h3⟩
    rw [(bytesLess_of_parts hp).1, e, (bytesLess_more (keyl a) c _).2, hh]
    simp
  · obtain ⟨c, u, hc, _⟩ := ptl_head (plainP t)
    have e : keyl a = keyl b ++ c :: (u ++ keyl (r.map plainP)) := by rw [← keyl_plain a, hh, keyl_append, keyl_plain b, List.map_cons, keyl_cons, hc]; rfl
    have h := (bytesLess_more (keyl b) c (u ++ keyl (r.map plainP))).1
    rw [← e] at h
    rw [h]
    simp only [Bool.not_true, Bool.false_and, Bool.false_eq_true, false_iff]
    intro h
    have := h.length_le
    rw [hh, List.length_append, List.map_cons, List.length_cons] at this
    omega

/-- A text that was put is read again. -/
theorem rtx_esc : ∀ (x s : List UInt8), rtx (esc x ++ 0 :: 1 :: s) = some (x, (esc x).length + 2)
  | [], s => by rw [rtx.eq_def]; simp [esc]
  | b :: x, s => by
    have ih := rtx_esc x s
    by_cases hb : b = 0
    · subst hb
      have e : esc (0 :: x) ++ 0 :: 1 :: s = 0 :: 255 :: (esc x ++ 0 :: 1 :: s) := by simp [esc, esc1]
      have e2 : (esc (0 :: x)).length = (esc x).length + 2 := by simp [esc, esc1]
      rw [e, rtx.eq_def]
      simp only [if_true]
      rw [if_neg (by decide), ih, e2]
      simp
    · have e : esc (b :: x) ++ 0 :: 1 :: s = b :: (esc x ++ 0 :: 1 :: s) := by simp [esc, esc1, hb]
      have e2 : (esc (b :: x)).length = (esc x).length + 1 := by simp [esc, esc1, hb]
      rw [e, rtx.eq_def]
      simp only
      rw [if_neg hb, ih, e2]
      simp
/-- What is read is what its bytes are. -/
theorem esc_rtx : ∀ (m : Nat) (l : List UInt8), l.length ≤ m → ∀ x k, rtx l = some (x, k) → esc x ++ [0, 1] = l.take k
  | _, [], _, x, k, h => by simp [rtx] at h
  | 0, _ :: _, hm, _, _, _ => by simp at hm
  | m + 1, b :: r, hm, x, k, h => by
    have hr : r.length ≤ m := by simpa using hm
    rw [rtx.eq_def] at h
    simp only at h
    split at h
    · rename_i hb
      subst hb
      split at h
      · cases h
      · rename_i c r'
        split at h
        · rename_i hc
          subst hc
          simp only [Option.some.injEq, Prod.mk.injEq] at h
          obtain ⟨rfl, rfl⟩ := h
          simp [esc]
        · split at h
          · rename_i _ hc
            subst hc
            simp only [Option.map_eq_some_iff, Prod.mk.injEq] at h
            obtain ⟨⟨y, j⟩, hy, rfl, rfl⟩ := h
            have := esc_rtx m r' (by simp at hr; omega) y j hy
            simp only [List.take_succ_cons]
            rw [← this]
            simp [esc, esc1]
          · cases h
    · rename_i hb
      simp only [Option.map_eq_some_iff, Prod.mk.injEq] at h
      obtain ⟨⟨y, j⟩, hy, rfl, rfl⟩ := h
      have := esc_rtx m r hr y j hy
      simp only [List.take_succ_cons]
      rw [← this]
      simp [esc, esc1, hb]

theorem rp_ptl (p : Pt) (hp : p.n < 18446744073709551616) (s : List UInt8) : rp (ptl p ++ s) = some (plainP p, (ptl p).length) := by
  obtain ⟨t, x, n⟩ := p
  cases t
  · rw [ptl_num, List.cons_append, rp_one, Nm.rv_row hp]
    simp [plainP]; omega
  · rw [ptl_text, List.cons_append, rp_two, List.append_assoc]
    have := rtx_esc x.data.toList s
    simp only [List.cons_append, List.nil_append]
    rw [this]
    simp [plainP]; omega
theorem ptl_rp {l : List UInt8} {p : Pt} {k : Nat} (h : rp l = some (p, k)) : ptl p = l.take k := by
  cases l with
  | nil => cases h
  | cons b r =>
    by_cases h1 : b = 1
    · subst h1
      rw [rp_one, Option.map_eq_some_iff] at h
      obtain ⟨⟨n, j⟩, hx, h⟩ := h
      simp only [Prod.mk.injEq] at h
      obtain ⟨rfl, rfl⟩ := h
      rw [ptl_num, Nat.add_comm, List.take_succ_cons, (Nm.row_rv hx).2.2.1]
    · by_cases h2 : b = 2
      · subst h2
        rw [rp_two, Option.map_eq_some_iff] at h
        obtain ⟨⟨x, j⟩, hx, h⟩ := h
        simp only [Prod.mk.injEq] at h
        obtain ⟨rfl, rfl⟩ := h
        rw [ptl_text, Nat.add_comm, List.take_succ_cons, ← esc_rtx _ _ (Nat.le_refl _) _ _ hx]
      · rw [rp_bad _ _ h1 h2] at h; cases h

/-- A list is read of its key as it was. -/
theorem prl_keyl : ∀ ps : List Pt, OkN ps → prl (keyl ps) = some (ps.map plainP)
  | [], _ => rfl
  | p :: ps, h => by
    obtain ⟨hp, h'⟩ := h.tail
    rw [keyl_cons, prl_some (rp_ptl p hp _), List.drop_left, prl_keyl ps h']
    rfl
/-- What is read of any text has that text as its key. -/
theorem keyl_prl : ∀ (m : Nat) (l : List UInt8) (ps : List Pt), l.length ≤ m → prl l = some ps → keyl ps = l ∧ OkN ps
  | _, [], ps, _, h => by
    rw [prl_nil] at h
    simp only [Option.some.injEq] at h
    subst h
    exact ⟨rfl, fun p hp => by simp at hp⟩
  | 0, _ :: _, _, hm, _ => by simp at hm
  | m + 1, b :: r, ps, hm, h => by
    cases hr : rp (b :: r) with
    | none => rw [prl_none (by simp) hr] at h; cases h
    | some y =>
      obtain ⟨p, k⟩ := y
      have hk := rp_le hr
      rw [prl_some hr, Option.map_eq_some_iff] at h
      obtain ⟨qs, hq, rfl⟩ := h
      have := keyl_prl m _ qs (by rw [List.length_drop]; omega) hq
      refine ⟨?_, fun q hq => ?_⟩
      · rw [keyl_cons, this.1, ptl_rp hr, List.take_append_drop]
      · simp only [List.mem_cons] at hq
        rcases hq with rfl | hq
        · exact hk.2.2
        · exact this.2 q hq

end Go.Proofs.Ytognddehcfjiaaa
