/- One more key in a list, level by level. No function is named. -/
import Derived.Test.YtmdnmabbphnhaaaSmD
namespace Go.Proofs.Ytmdnmabbphnhaaa.Sm
open Go.Proofs.Ytmdnmabbphnhaaa.Sk
open Go Go.RowKit
set_option linter.unusedVariables false

section
variable {α : Type}
theorem shape_append (A B : List (It α)) : shape (A ++ B) = shape A ++ shape B := by simp [shape]
theorem shape_cons (y : It α) (B : List (It α)) : shape (y :: B) = (y.key, y.h) :: shape B := rfl
theorem keys_append (A B : List (It α)) : keys (A ++ B) = keys A ++ keys B := by simp [keys]
theorem nxt_skip {ks : List Str} {l : Nat} {X B : Sh} {k : Str} {j : Nat} (h : ¬ l < j) : nxt ks l (X ++ (k, j) :: B) = nxt ks l (X ++ B) := by
  unfold nxt
  rw [List.find?_append, List.find?_append, List.find?_cons_of_neg (by simpa using h)]
theorem nxt_step {ks : List Str} {l : Nat} {X B : Sh} {k : Str} {j : Nat} (h : l ≠ j) : nxt ks l (X ++ (k, j) :: B) = nxt ks l (X ++ (k, j + 1) :: B) := by
  unfold nxt
  rw [List.find?_append, List.find?_append]
  by_cases hl : l < j
  · rw [List.find?_cons_of_pos (by simpa using hl), List.find?_cons_of_pos (by simp; omega)]
    cases X.find? (fun y => decide (l < y.2)) <;> rfl
  · rw [List.find?_cons_of_neg (by simpa using hl), List.find?_cons_of_neg (by simp; omega)]
theorem tow_congr {ks ks' : List Str} {h : Nat} {B B' : Sh} (e : ∀ l, l < h → nxt ks l B = nxt ks' l B') : tow ks h B = tow ks' h B' := by
  unfold tow
  exact List.map_congr_left fun l hl => by rw [e l (by simpa using hl)]
theorem tow_set {ks ks' : List Str} {h j v : Nat} {B B' : Sh} (e : ∀ l, l < h → l ≠ j → nxt ks l B = nxt ks' l B') (hv : nxt ks' j B' = v) : (tow ks h B).toArray.setIfInBounds j (.int .i64 (v : Int)) = (tow ks' h B').toArray := by
  rw [List.setIfInBounds_toArray]
  congr 1
  apply List.ext_getElem?
  intro i
  rw [List.getElem?_set, tow_length]
  unfold tow
  by_cases hi : j = i
  · subst hi
    rw [if_pos rfl]
    by_cases hj : j < h
    · rw [if_pos hj, List.getElem?_map, List.getElem?_range hj, Option.map_some, hv]
    · rw [if_neg hj, List.getElem?_map, List.getElem?_eq_none (by rw [List.length_range]; omega)]; rfl
  · rw [if_neg hi]
    by_cases hj : i < h
    · rw [List.getElem?_map, List.getElem?_map, List.getElem?_range hj, Option.map_some, Option.map_some, e i hj (fun e2 => hi e2.symm)]
    · rw [List.getElem?_map, List.getElem?_map, List.getElem?_eq_none (by rw [List.length_range]; omega)]; rfl

/-- The new key's own tower, up to a level. -/
def ownT (ks : List Str) (B : Sh) (h j : Nat) : List Value := (List.range h).map fun l => .int .i64 ((if l < j then nxt ks l B else 0 : Nat) : Int)
theorem ownT_set (ks : List Str) (B : Sh) (h j : Nat) : (ownT ks B h j).toArray.setIfInBounds j (.int .i64 (nxt ks j B : Int)) = (ownT ks B h (j + 1)).toArray :=
  range_set (by rw [if_pos (Nat.lt_succ_self j)]) fun i hi => by
    by_cases h3 : i < j
    · rw [if_pos h3, if_pos (by omega)]
    · rw [if_neg h3, if_neg (by omega)]
theorem ownT_full (ks : List Str) (B : Sh) (h : Nat) : ownT ks B h h = tow ks h B := by
  unfold ownT tow
  exact List.map_congr_left fun l hl => by rw [if_pos (by simpa using hl)]
theorem ownT_new (ks : List Str) (B : Sh) (h : Nat) : ownT ks B h 0 = List.replicate h (.int .i64 0) := by
  unfold ownT
  rw [List.map_congr_left (g := fun _ => Value.int .i64 0) (fun l hl => by rw [if_neg (Nat.not_lt_zero l)]; rfl)]
  exact List.eq_replicate_iff.2 ⟨by rw [List.length_map, List.length_range], fun b hb => by
    obtain ⟨_, _, e⟩ := List.mem_map.1 hb
    exact e.symm⟩
def loc' (L : Lay) (k : Str) (T : Nat) (q : Str) : Nat := if q = k then T else L.loc q

/-- A list into which a key is being put: its first levels are linked. -/
structure Mid (cv : α → Ent) (w : World) (L : Lay) (A B r : List (It α)) (x : It α) (T : Nat) (v : Value) (j : Nat) : Prop where
  box : w.heap[L.b]? = some (.cells (v :: tow (keys (r ++ [x])) 12 (shape A ++ (x.key, j) :: shape B)).toArray 68 (0, 0))
  row : w.ownsRow 0 77 6 v (r ++ [x]).length ((r ++ [x]).flatMap (nodeCells cv (loc' L x.key T)))
  low : ∀ C y D, A = C ++ y :: D → w.heap[L.loc y.key]? = some (.cells (tow (keys (r ++ [x])) y.h (shape D ++ (x.key, j) :: shape B)).toArray 3 (0, 0))
  high : ∀ C y D, B = C ++ y :: D → w.heap[L.loc y.key]? = some (.cells (tow (keys (r ++ [x])) y.h (shape D)).toArray 3 (0, 0))
  own : w.heap[T]? = some (.cells (ownT (keys (r ++ [x])) (shape B) x.h j).toArray 3 (0, 0))
/-- What stays so all the while. -/
structure Fixed (L : Lay) (A B r : List (It α)) (x : It α) (T : Nat) : Prop where
  kin : Kin (A ++ B) r
  hgt : ∀ y ∈ A ++ B, 1 ≤ y.h ∧ y.h ≤ 12
  small : ∀ y ∈ A ++ B, y.key.length ≤ 1000000
  few : r.length < 100000
  lows : ∀ y ∈ A, bytesBefore y.key x.key = true
  highs : ∀ y ∈ B, bytesBefore x.key y.key = true
  apart : ∀ y ∈ A ++ B, ∀ z ∈ A ++ B, y.key ≠ z.key → L.loc y.key ≠ L.loc z.key
  new : ∀ y ∈ A ++ B, L.loc y.key ≠ T
  xh : 1 ≤ x.h ∧ x.h ≤ 12
  xs : x.key.length ≤ 1000000

variable {cv : α → Ent} {w w' : World} {L : Lay} {A B r : List (It α)} {x : It α} {T j : Nat} {v : Value}
theorem Fixed.fresh (F : Fixed L A B r x T) : ∀ y ∈ r, y.key ≠ x.key := fun y hy e => by
  rcases List.mem_append.1 ((F.kin.mem y).2 hy) with h | h
  · have := F.lows y h; rw [e] at this; exact lt_irr _ this
  · have := F.highs y h; rw [e] at this; exact lt_irr _ this
theorem rput_new {x : It α} : ∀ {r : List (It α)}, (∀ y ∈ r, y.key ≠ x.key) → rput x r = r ++ [x]
  | [], _ => rfl
  | y :: r, h => by
    rw [rput, if_neg (h y (by simp)), rput_new (fun z hz => h z (by simp [hz]))]
    rfl
theorem put_new {x : It α} : ∀ {A B : List (It α)}, (∀ y ∈ A, bytesBefore y.key x.key = true) → (∀ y ∈ B, bytesBefore x.key y.key = true) → put x (A ++ B) = A ++ x :: B
  | [], [], _, _ => rfl
  | [], y :: B, _, h => by
    have hy := h y (by simp)
    rw [List.nil_append, put, if_neg (lt_ne hy).symm, if_neg (by rw [lt_asym hy]; decide)]
    rfl
  | y :: A, B, h, h2 => by
    have hy := h y (by simp)
    rw [List.cons_append, put, if_neg (lt_ne hy), if_pos hy, put_new (fun z hz => h z (by simp [hz])) h2]
    rfl
theorem Fixed.kin' (F : Fixed L A B r x T) : Kin (A ++ x :: B) (r ++ [x]) := by
  have := F.kin.put x
  rwa [put_new F.lows F.highs, rput_new F.fresh] at this
theorem Fixed.plc_new (F : Fixed L A B r x T) : plc (keys (r ++ [x])) x.key = r.length + 1 := by
  rw [keys_append]
  have e : (keys r).length = r.length := by simp [keys]
  rw [← e]
  refine Sm.plc_new fun h => ?_
  obtain ⟨y, hy, e⟩ := List.mem_map.1 h
  exact F.fresh y hy e
/-- It lies then. -/
theorem Mid.done (M : Mid cv w L A B r x T v x.h) (F : Fixed L A B r x T) : Lies cv w { b := L.b, vec := v, loc := loc' L x.key T } (A ++ x :: B) (r ++ [x]) := by
  have hne : ∀ y ∈ A ++ B, y.key ≠ x.key := fun y hy => F.fresh y ((F.kin.mem y).1 hy)
  have hloc : ∀ y ∈ A ++ B, loc' L x.key T y.key = L.loc y.key := fun y hy => by unfold loc'; rw [if_neg (hne y hy)]
  have hlx : loc' L x.key T x.key = T := by unfold loc'; rw [if_pos rfl]
  have hm : ∀ y ∈ A ++ x :: B, y = x ∨ y ∈ A ++ B := fun y hy => by
    simp only [List.mem_append, List.mem_cons] at hy ⊢
    rcases hy with h | h | h
    · exact Or.inr (Or.inl h)
    · exact Or.inl h
    · exact Or.inr (Or.inr h)
  refine ⟨F.kin', fun y hy => ?_, fun y hy => ?_, ?_, ?_, M.row, fun C q h D e => ?_, fun y hy z hz hyz => ?_⟩
  · rcases hm y hy with rfl | h
    · exact F.xh
    · exact F.hgt y h
  · rcases hm y hy with rfl | h
    · exact F.xs
    · exact F.small y h
  · have := F.few
    simp; omega
  · rw [shape_append, shape_cons]; exact M.box
  · unfold shape at e
    obtain ⟨C', D', e0, e1, e2⟩ := List.map_eq_append_iff.1 e
    obtain ⟨y, D2, rfl, e3, e4⟩ := List.map_eq_cons_iff.1 e2
    simp only [Prod.mk.injEq] at e3
    obtain ⟨rfl, rfl⟩ := e3
    have e5 : D = shape D2 := e4.symm
    subst e5
    show w.heap[loc' L x.key T y.key]? = _
    rcases List.append_eq_append_iff.1 e0 with ⟨a, e6, e7⟩ | ⟨a, e6, e7⟩
    · cases a with
      | nil =>
        simp only [List.nil_append, List.cons.injEq] at e7
        obtain ⟨rfl, rfl⟩ := e7
        rw [hlx, ← ownT_full]
        exact M.own
      | cons z a =>
        simp only [List.cons_append, List.cons.injEq] at e7
        obtain ⟨rfl, e7⟩ := e7
        rw [hloc y (by rw [e7]; simp)]
        exact M.high a y D2 e7
    · cases a with
      | nil =>
        simp only [List.nil_append, List.cons.injEq] at e7
        obtain ⟨rfl, rfl⟩ := e7
        rw [hlx, ← ownT_full]
        exact M.own
      | cons z a =>
        simp only [List.cons_append, List.cons.injEq] at e7
        obtain ⟨rfl, e7⟩ := e7
        rw [hloc y (by rw [e6]; simp), e7, shape_append, shape_cons]
        exact M.low C' y a e6
  · show loc' L x.key T y.key ≠ loc' L x.key T z.key
    rcases hm y hy with rfl | h1
    · rcases hm z hz with rfl | h2
      · exact absurd rfl hyz
      · rw [hlx, hloc z h2]; exact (F.new z h2).symm
    · rcases hm z hz with rfl | h2
      · rw [hlx, hloc y h1]; exact F.new y h1
      · rw [hloc y h1, hloc z h2]; exact F.apart y h1 z h2 hyz
theorem Mid.half (M : Mid cv w L A B r x T v j) (F : Fixed L A B r x T) : Half cv w { b := L.b, vec := v, loc := loc' L x.key T } (r ++ [x]) :=
  ⟨F.kin'.one, by have := F.few; simp; omega, by rw [cell_of M.box]; rfl, M.row⟩
end
end Go.Proofs.Ytmdnmabbphnhaaa.Sm
