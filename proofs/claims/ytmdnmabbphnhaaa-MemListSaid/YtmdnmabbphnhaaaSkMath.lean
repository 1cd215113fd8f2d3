/- Keys in order as plain data: a rising row of keys, each with a value and a height, beside a row in the order in which they came. No function is named. -/
import Derived.WalkKit
import Derived.WideAt
import Derived.WideShapes
namespace Go.Proofs.Ytmdnmabbphnhaaa.Sk
open Go
set_option linter.unusedVariables false

abbrev Str := List UInt8
/-- A key, its value, how high its tower is. -/
structure It (α : Type) where
  key : Str
  val : α
  h : Nat
variable {α : Type}

theorem lt_irr (a : Str) : bytesBefore a a ≠ true := by rw [WideAt.bytes_irrefl a]; decide
theorem lt_trans {a b c : Str} (h : bytesBefore a b = true) (k : bytesBefore b c = true) : bytesBefore a c = true := WideShapes.bytes_trans a b c h k
theorem lt_total {a b : Str} (h : a ≠ b) : bytesBefore a b = true ∨ bytesBefore b a = true := WideAt.bytes_total a b h
theorem lt_asym {a b : Str} (h : bytesBefore a b = true) : bytesBefore b a = false := by
  cases e : bytesBefore b a with
  | false => rfl
  | true => exact absurd (lt_trans h e) (lt_irr a)
theorem lt_ne {a b : Str} (h : bytesBefore a b = true) : a ≠ b := fun e => lt_irr a (by rw [← e] at h; exact h)
theorem lt_nil (a : Str) : bytesBefore a [] = false := by
  cases a with
  | nil => exact WideAt.bytes_irrefl []
  | cons x a => rfl

/-- Keys rise. -/
def Up (l : List (It α)) : Prop := l.Pairwise fun a b => bytesBefore a.key b.key = true
/-- Each key once. -/
def One (l : List (It α)) : Prop := l.Pairwise fun a b => a.key ≠ b.key
theorem Up.one {l : List (It α)} (h : Up l) : One l := List.Pairwise.imp (fun h => lt_ne h) h
theorem Up.tail {x : It α} {l : List (It α)} (h : Up (x :: l)) : Up l := List.Pairwise.of_cons h
theorem Up.head {x y : It α} {l : List (It α)} (h : Up (x :: l)) (hy : y ∈ l) : bytesBefore x.key y.key = true := List.rel_of_pairwise_cons h hy
theorem One.tail {x : It α} {l : List (It α)} (h : One (x :: l)) : One l := List.Pairwise.of_cons h
theorem One.head {x y : It α} {l : List (It α)} (h : One (x :: l)) (hy : y ∈ l) : x.key ≠ y.key := List.rel_of_pairwise_cons h hy
theorem One.eq : ∀ {l : List (It α)}, One l → ∀ {x y : It α}, x ∈ l → y ∈ l → x.key = y.key → x = y
  | [], _, x, _, hx, _, _ => by cases hx
  | a :: l, h, x, y, hx, hy, e => by
    rcases List.mem_cons.1 hx with h1 | h1
    · rcases List.mem_cons.1 hy with h2 | h2
      · rw [h1, h2]
      · exact absurd (by rw [← h1]; exact e) (h.head h2)
    · rcases List.mem_cons.1 hy with h2 | h2
      · exact absurd (by rw [← h2]; exact e.symm) (h.head h1)
      · exact h.tail.eq h1 h2 e

/-! ### a rising row -/
def put (x : It α) : List (It α) → List (It α)
  | [] => [x]
  | y :: l => if y.key = x.key then ⟨x.key, x.val, y.h⟩ :: l else if bytesBefore y.key x.key then y :: put x l else x :: y :: l
def find (k : Str) (l : List (It α)) : Option (It α) := l.find? fun y => y.key == k
def seek (k : Str) (l : List (It α)) : Option (It α) := l.find? fun y => !bytesBefore y.key k
def after (k : Str) (l : List (It α)) : Option (It α) := l.find? fun y => bytesBefore k y.key
def row (n : Nat) (l : List (It α)) : List (It α) := l.filter fun y => decide (n < y.h)
/-- How high the tower of a key is that is set: as high as it was, if it was there. -/
def hgt (x : It α) (l : List (It α)) : Nat := match find x.key l with
  | some y => y.h
  | none => x.h
theorem find_some {k : Str} {l : List (It α)} {y : It α} (h : find k l = some y) : y ∈ l ∧ y.key = k :=
  ⟨List.mem_of_find?_eq_some h, by simpa using List.find?_some h⟩
theorem find_none {k : Str} {l : List (It α)} : find k l = none ↔ ∀ y ∈ l, y.key ≠ k := by
  unfold find
  rw [List.find?_eq_none]
  simp
theorem find_mem {k : Str} {l : List (It α)} (h : One l) {y : It α} (hy : y ∈ l) (hk : y.key = k) : find k l = some y := by
  cases e : find k l with
  | none => exact absurd hk (find_none.1 e y hy)
  | some z =>
    obtain ⟨h1, h2⟩ := find_some e
    rw [h.eq h1 hy (h2.trans hk.symm)]
theorem find_cons_ne {k : Str} {y : It α} {l : List (It α)} (h : y.key ≠ k) : find k (y :: l) = find k l := by
  unfold find
  rw [List.find?_cons_of_neg (by simpa using h)]
theorem find_cons_eq {k : Str} {y : It α} {l : List (It α)} (h : y.key = k) : find k (y :: l) = some y := by
  unfold find
  rw [List.find?_cons_of_pos (by simpa using h)]
theorem hgt_cons_ne {x y : It α} {l : List (It α)} (h : y.key ≠ x.key) : hgt x (y :: l) = hgt x l := by unfold hgt; rw [find_cons_ne h]
theorem hgt_cons_eq {x y : It α} {l : List (It α)} (h : y.key = x.key) : hgt x (y :: l) = y.h := by unfold hgt; rw [find_cons_eq h]
theorem hgt_none {x : It α} {l : List (It α)} (h : ∀ y ∈ l, y.key ≠ x.key) : hgt x l = x.h := by unfold hgt; rw [find_none.2 h]
theorem mem_put {x : It α} : ∀ {l : List (It α)}, Up l → ∀ z, z ∈ put x l ↔ (z ∈ l ∧ z.key ≠ x.key) ∨ z = ⟨x.key, x.val, hgt x l⟩
  | [], _, z => by
    rw [put, hgt_none (by simp)]
    simp
  | y :: l, h, z => by
    rw [put]
    by_cases he : y.key = x.key
    · rw [if_pos he, hgt_cons_eq he, List.mem_cons, List.mem_cons]
      constructor
      · rintro (rfl | hz)
        · exact Or.inr rfl
        · exact Or.inl ⟨Or.inr hz, fun e => h.one.head hz (he.trans e.symm)⟩
      · rintro (⟨rfl | hz, hk⟩ | rfl)
        · exact absurd he hk
        · exact Or.inr hz
        · exact Or.inl rfl
    · rw [if_neg he, hgt_cons_ne he]
      by_cases hb : bytesBefore y.key x.key = true
      · rw [if_pos hb, List.mem_cons, List.mem_cons, mem_put h.tail z]
        constructor
        · rintro (rfl | ⟨hz, hk⟩ | hz)
          · exact Or.inl ⟨Or.inl rfl, he⟩
          · exact Or.inl ⟨Or.inr hz, hk⟩
          · exact Or.inr hz
        · rintro (⟨rfl | hz, hk⟩ | hz)
          · exact Or.inl rfl
          · exact Or.inr (Or.inl ⟨hz, hk⟩)
          · exact Or.inr (Or.inr hz)
      · have hx : bytesBefore x.key y.key = true := (lt_total he).resolve_left hb
        have hn : ∀ w ∈ l, w.key ≠ x.key := fun w hw e => lt_irr x.key (by have := lt_trans hx (h.head hw); rwa [e] at this)
        rw [if_neg hb, hgt_none hn, List.mem_cons]
        constructor
        · rintro (rfl | hz)
          · exact Or.inr rfl
          · refine Or.inl ⟨hz, ?_⟩
            rcases List.mem_cons.1 hz with rfl | hz
            · exact he
            · exact hn z hz
        · rintro (⟨hz, _⟩ | rfl)
          · exact Or.inr hz
          · exact Or.inl rfl
theorem up_put {x : It α} : ∀ {l : List (It α)}, Up l → Up (put x l)
  | [], _ => List.pairwise_singleton ..
  | y :: l, h => by
    rw [put]
    by_cases he : y.key = x.key
    · rw [if_pos he]
      refine List.pairwise_cons.2 ⟨fun z hz => ?_, h.tail⟩
      have := h.head hz
      rwa [he] at this
    · rw [if_neg he]
      by_cases hb : bytesBefore y.key x.key = true
      · rw [if_pos hb]
        refine List.pairwise_cons.2 ⟨fun z hz => ?_, up_put h.tail⟩
        rcases (mem_put h.tail z).1 hz with ⟨hz, _⟩ | rfl
        · exact h.head hz
        · exact hb
      · have hx : bytesBefore x.key y.key = true := (lt_total he).resolve_left hb
        rw [if_neg hb]
        refine List.pairwise_cons.2 ⟨fun z hz => ?_, h⟩
        rcases List.mem_cons.1 hz with rfl | hz
        · exact hx
        · exact lt_trans hx (h.head hz)
theorem length_put {x : It α} : ∀ {l : List (It α)}, Up l → (put x l).length = if (find x.key l).isSome then l.length else l.length + 1
  | [], _ => rfl
  | y :: l, h => by
    rw [put]
    by_cases he : y.key = x.key
    · rw [if_pos he, find_cons_eq he]; simp
    · rw [if_neg he, find_cons_ne he]
      by_cases hb : bytesBefore y.key x.key = true
      · rw [if_pos hb, List.length_cons, length_put h.tail, List.length_cons]
        split <;> rfl
      · have hx : bytesBefore x.key y.key = true := (lt_total he).resolve_left hb
        have hn : ∀ w ∈ l, w.key ≠ x.key := fun w hw e => lt_irr x.key (by have := lt_trans hx (h.head hw); rwa [e] at this)
        rw [if_neg hb, find_none.2 hn]; rfl

/-! ### the row in the order in which they came -/
def rput (x : It α) : List (It α) → List (It α)
  | [] => [x]
  | y :: l => if y.key = x.key then ⟨x.key, x.val, y.h⟩ :: l else y :: rput x l
theorem mem_rput {x : It α} : ∀ {l : List (It α)}, One l → ∀ z, z ∈ rput x l ↔ (z ∈ l ∧ z.key ≠ x.key) ∨ z = ⟨x.key, x.val, hgt x l⟩
  | [], _, z => by
    rw [rput, hgt_none (by simp)]
    simp
  | y :: l, h, z => by
    rw [rput]
    by_cases he : y.key = x.key
    · rw [if_pos he, hgt_cons_eq he, List.mem_cons, List.mem_cons]
      constructor
      · rintro (rfl | hz)
        · exact Or.inr rfl
        · exact Or.inl ⟨Or.inr hz, fun e => h.head hz (he.trans e.symm)⟩
      · rintro (⟨rfl | hz, hk⟩ | rfl)
        · exact absurd he hk
        · exact Or.inr hz
        · exact Or.inl rfl
    · rw [if_neg he, hgt_cons_ne he, List.mem_cons, List.mem_cons, mem_rput h.tail z]
      constructor
      · rintro (rfl | ⟨hz, hk⟩ | hz)
        · exact Or.inl ⟨Or.inl rfl, he⟩
        · exact Or.inl ⟨Or.inr hz, hk⟩
        · exact Or.inr hz
      · rintro (⟨rfl | hz, hk⟩ | hz)
        · exact Or.inl rfl
        · exact Or.inr (Or.inl ⟨hz, hk⟩)
        · exact Or.inr (Or.inr hz)
theorem one_rput {x : It α} : ∀ {l : List (It α)}, One l → One (rput x l)
  | [], _ => List.pairwise_singleton ..
  | y :: l, h => by
    rw [rput]
    by_cases he : y.key = x.key
    · rw [if_pos he]
      refine List.pairwise_cons.2 ⟨fun z hz => ?_, h.tail⟩
      have := h.head hz
      rwa [he] at this
    · rw [if_neg he]
      refine List.pairwise_cons.2 ⟨fun z hz => ?_, one_rput h.tail⟩
      rcases (mem_rput h.tail z).1 hz with ⟨hz, _⟩ | rfl
      · exact h.head hz
      · exact he
theorem length_rput {x : It α} : ∀ {l : List (It α)}, One l → (rput x l).length = if (find x.key l).isSome then l.length else l.length + 1
  | [], _ => rfl
  | y :: l, h => by
    rw [rput]
    by_cases he : y.key = x.key
    · rw [if_pos he, find_cons_eq he]; simp
    · rw [if_neg he, find_cons_ne he, List.length_cons, length_rput h.tail, List.length_cons]
      split <;> rfl
/-- Is this one among those that are asked for: not below a key, or above it? -/
def ok (k : Str) (above : Bool) (y : It α) : Bool := !(bytesBefore y.key k || (above && y.key == k))
def better (k : Str) (above : Bool) (b : Option (It α)) (y : It α) : Option (It α) := if ok k above y then match b with
  | none => some y
  | some z => if bytesBefore y.key z.key then some y else some z else b
/-- The least one. -/
def least (k : Str) (above : Bool) (l : List (It α)) : Option (It α) := l.foldl (better k above) none
/-- What the least one among those seen is. -/
def Best (k : Str) (above : Bool) (l : List (It α)) : Option (It α) → Prop
  | none => ∀ y ∈ l, ok k above y = false
  | some x => x ∈ l ∧ ok k above x = true ∧ ∀ y ∈ l, ok k above y = true → y.key = x.key ∨ bytesBefore x.key y.key = true
theorem Best.step {k : Str} {above : Bool} {l : List (It α)} {b : Option (It α)} (h : Best k above l b) (y : It α) : Best k above (l ++ [y]) (better k above b y) := by
  have hm : ∀ z, z ∈ l ++ [y] ↔ z ∈ l ∨ z = y := fun z => by simp
  unfold better
  cases hk : ok k above y with
  | false =>
    rw [if_neg (by simp)]
    cases b with
    | none =>
      intro z hz
      rcases (hm z).1 hz with hz | rfl
      · exact h z hz
      · exact hk
    | some x =>
      refine ⟨(hm x).2 (Or.inl h.1), h.2.1, fun z hz hz2 => ?_⟩
      rcases (hm z).1 hz with hz | rfl
      · exact h.2.2 z hz hz2
      · rw [hk] at hz2; cases hz2
  | true =>
    rw [if_pos rfl]
    cases b with
    | none =>
      refine ⟨(hm y).2 (Or.inr rfl), hk, fun z hz hz2 => ?_⟩
      rcases (hm z).1 hz with hz | rfl
      · rw [h z hz] at hz2; cases hz2
      · exact Or.inl rfl
    | some x =>
      dsimp only
      cases hb : bytesBefore y.key x.key with
      | true =>
        rw [if_pos rfl]
        refine ⟨(hm y).2 (Or.inr rfl), hk, fun z hz hz2 => ?_⟩
        rcases (hm z).1 hz with hz | rfl
        · rcases h.2.2 z hz hz2 with e | e
          · rw [e]; exact Or.inr hb
          · exact Or.inr (lt_trans hb e)
        · exact Or.inl rfl
      | false =>
        rw [if_neg (by simp)]
        refine ⟨(hm x).2 (Or.inl h.1), h.2.1, fun z hz hz2 => ?_⟩
        rcases (hm z).1 hz with hz | rfl
        · exact h.2.2 z hz hz2
        · by_cases e : z.key = x.key
          · exact Or.inl e
          · exact Or.inr ((lt_total e).resolve_left (by rw [hb]; decide))
theorem best_fold (k : Str) (above : Bool) : ∀ (m l : List (It α)) (b : Option (It α)), Best k above l b → Best k above (l ++ m) (m.foldl (better k above) b)
  | [], l, b, h => by rw [List.append_nil]; exact h
  | y :: m, l, b, h => by
    have := best_fold k above m (l ++ [y]) _ (h.step y)
    rw [List.append_assoc] at this
    exact this
theorem best_least (k : Str) (above : Bool) (l : List (It α)) : Best k above l (least k above l) := by
  have := best_fold k above l [] none (fun y hy => by cases hy)
  rwa [List.nil_append] at this
theorem Best.eq {k : Str} {above : Bool} {l m : List (It α)} (hm : ∀ z, z ∈ l ↔ z ∈ m) (h1 : One m) {a b : Option (It α)} (ha : Best k above l a) (hb : Best k above m b) : a = b := by
  cases a with
  | none =>
    cases b with
    | none => rfl
    | some y => have := ha y ((hm y).2 hb.1); rw [hb.2.1] at this; cases this
  | some x =>
    cases b with
    | none => have := hb x ((hm x).1 ha.1); rw [ha.2.1] at this; cases this
    | some y =>
      congr 1
      refine h1.eq ((hm x).1 ha.1) hb.1 ?_
      rcases ha.2.2 y ((hm y).2 hb.1) hb.2.1 with e | e
      · exact e.symm
      · rcases hb.2.2 x ((hm x).1 ha.1) ha.2.1 with e2 | e2
        · exact e2
        · exact absurd (lt_trans e e2) (lt_irr _)

/-! ### the two side by side -/
structure Kin (s r : List (It α)) : Prop where
  up : Up s
  one : One r
  mem : ∀ z, z ∈ s ↔ z ∈ r
  len : s.length = r.length
theorem Kin.nil : Kin ([] : List (It α)) [] := ⟨List.Pairwise.nil, List.Pairwise.nil, fun z => Iff.rfl, rfl⟩
theorem Kin.find {s r : List (It α)} (h : Kin s r) (k : Str) : find k s = find k r := by
  cases e : Sk.find k r with
  | none => exact find_none.2 fun y hy => find_none.1 e y ((h.mem y).1 hy)
  | some y =>
    obtain ⟨h1, h2⟩ := find_some e
    exact find_mem h.up.one ((h.mem y).2 h1) h2
theorem Kin.put {s r : List (It α)} (h : Kin s r) (x : It α) : Kin (put x s) (rput x r) := by
  have hh : hgt x s = hgt x r := by unfold hgt; rw [h.find]
  refine ⟨up_put h.up, one_rput h.one, fun z => ?_, ?_⟩
  · rw [mem_put h.up, mem_rput h.one, hh, h.mem]
  · rw [length_put h.up, length_rput h.one, h.find, h.len]
theorem best_seek {k : Str} : ∀ {s : List (It α)}, Up s → Best k false s (seek k s)
  | [], _ => fun y hy => by cases hy
  | x :: s, h => by
    unfold seek
    cases hb : bytesBefore x.key k with
    | true =>
      rw [List.find?_cons_of_neg (by simp [hb])]
      have ih := best_seek (k := k) h.tail
      unfold seek at ih
      have hx : ok k false x = false := by unfold ok; rw [hb]; rfl
      cases e : s.find? fun y => !bytesBefore y.key k with
      | none =>
        rw [e] at ih
        intro y hy
        rcases List.mem_cons.1 hy with rfl | hy
        · exact hx
        · exact ih y hy
      | some z =>
        rw [e] at ih
        refine ⟨List.mem_cons_of_mem _ ih.1, ih.2.1, fun y hy hy2 => ?_⟩
        rcases List.mem_cons.1 hy with rfl | hy
        · rw [hx] at hy2; cases hy2
        · exact ih.2.2 y hy hy2
    | false =>
      rw [List.find?_cons_of_pos (by simp [hb])]
      refine ⟨List.mem_cons_self .., by unfold ok; rw [hb]; rfl, fun y hy _ => ?_⟩
      rcases List.mem_cons.1 hy with rfl | hy
      · exact Or.inl rfl
      · exact Or.inr (h.head hy)
theorem ok_above {k : Str} {y : It α} : ok k true y = bytesBefore k y.key := by
  unfold ok
  by_cases e : y.key = k
  · rw [e, Bool.eq_false_iff.2 (lt_irr k)]; simp
  · rcases lt_total e with h | h
    · rw [h, lt_asym h]; simp
    · rw [h, lt_asym h]; simp [e]
theorem best_after {k : Str} : ∀ {s : List (It α)}, Up s → Best k true s (after k s)
  | [], _ => fun y hy => by cases hy
  | x :: s, h => by
    unfold after
    cases hb : bytesBefore k x.key with
    | false =>
      rw [List.find?_cons_of_neg (by simp [hb])]
      have ih := best_after (k := k) h.tail
      unfold after at ih
      have hx : ok k true x = false := by rw [ok_above]; exact hb
      cases e : s.find? fun y => bytesBefore k y.key with
      | none =>
        rw [e] at ih
        intro y hy
        rcases List.mem_cons.1 hy with rfl | hy
        · exact hx
        · exact ih y hy
      | some z =>
        rw [e] at ih
        refine ⟨List.mem_cons_of_mem _ ih.1, ih.2.1, fun y hy hy2 => ?_⟩
        rcases List.mem_cons.1 hy with rfl | hy
        · rw [hx] at hy2; cases hy2
        · exact ih.2.2 y hy hy2
    | true =>
      rw [List.find?_cons_of_pos (p := fun y : It α => bytesBefore k y.key) hb]
      refine ⟨List.mem_cons_self .., by rw [ok_above]; exact hb, fun y hy _ => ?_⟩
      rcases List.mem_cons.1 hy with rfl | hy
      · exact Or.inl rfl
      · exact Or.inr (h.head hy)
theorem Kin.seek {s r : List (It α)} (h : Kin s r) (k : Str) : least k false r = seek k s := (Best.eq h.mem h.one (best_seek h.up) (best_least k false r)).symm
theorem Kin.after {s r : List (It α)} (h : Kin s r) (k : Str) : least k true r = after k s := (Best.eq h.mem h.one (best_after h.up) (best_least k true r)).symm
theorem seek_all {s : List (It α)} : seek [] s = s.head? := by
  unfold seek
  cases s with
  | nil => rfl
  | cons x s => rw [List.find?_cons_of_pos (by simp [lt_nil])]; rfl
/-- What comes behind a key that is there. -/
theorem after_at : ∀ {s : List (It α)}, Up s → ∀ {k : Nat} {x : It α}, s[k]? = some x → after x.key s = s[k + 1]?
  | [], _, k, x, hx => by simp at hx
  | y :: s, h, 0, x, hx => by
    simp only [List.getElem?_cons_zero, Option.some.injEq] at hx
    subst hx
    unfold after
    rw [List.find?_cons_of_neg (p := fun z : It α => bytesBefore y.key z.key) (lt_irr _), List.getElem?_cons_succ]
    cases s with
    | nil => rfl
    | cons z s => rw [List.find?_cons_of_pos (p := fun z : It α => bytesBefore y.key z.key) (h.head (List.mem_cons_self ..))]; rfl
  | y :: s, h, k + 1, x, hx => by
    rw [List.getElem?_cons_succ] at hx
    have hm := List.mem_of_getElem? hx
    have ih := after_at h.tail hx
    unfold after at ih ⊢
    rw [List.find?_cons_of_neg (p := fun z : It α => bytesBefore x.key z.key) (by rw [lt_asym (h.head hm)]; decide), ih, List.getElem?_cons_succ]

/-- A level's row, key by key. -/
theorem row_take {n i : Nat} {l : List (It α)} {x : It α} (h : l[i]? = some x) : row n (l.take (i + 1)) = row n (l.take i) ++ (if n < x.h then [x] else []) := by
  unfold row
  rw [List.take_add_one, h, List.filter_append]
  congr 1
  show [x].filter _ = _
  rw [List.filter_cons]
  by_cases hn : n < x.h
  · rw [if_pos (by simpa using hn), if_pos hn]; rfl
  · rw [if_neg (by simpa using hn), if_neg hn]; rfl
theorem row_up {n : Nat} {l : List (It α)} (h : Up l) : Up (row n l) := List.Pairwise.sublist List.filter_sublist h
theorem row_zero {l : List (It α)} (h : ∀ x ∈ l, 1 ≤ x.h) : row 0 l = l := by
  unfold row
  rw [List.filter_eq_self]
  intro x hx
  have := h x hx
  simp; omega
/-- A higher row is a part of a lower one. -/
theorem row_row {m n : Nat} (hmn : m ≤ n) (l : List (It α)) : row n (row m l) = row n l := by
  unfold row
  rw [List.filter_filter]
  congr 1
  funext x
  by_cases h : n < x.h
  · simp [h]; omega
  · simp [h]
/-- The heights of keys that are set stay where they are. -/
theorem heights_put {P : Nat → Prop} {x : It α} {l : List (It α)} (h : Up l) (hx : P x.h) (hl : ∀ y ∈ l, P y.h) : ∀ z ∈ put x l, P z.h := by
  intro z hz
  rcases (mem_put h z).1 hz with ⟨hz, _⟩ | rfl
  · exact hl z hz
  · show P (hgt x l)
    unfold hgt
    cases e : find x.key l with
    | none => exact hx
    | some y => exact hl y (find_some e).1

end Go.Proofs.Ytmdnmabbphnhaaa.Sk
