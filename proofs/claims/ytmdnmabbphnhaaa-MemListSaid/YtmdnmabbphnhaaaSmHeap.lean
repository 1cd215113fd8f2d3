/- A list of keys in memory: its block, the row of its nodes, their towers. No function is named. -/
import Derived.Test.YtmdnmabbphnhaaaSkTurns
namespace Go.Proofs.Ytmdnmabbphnhaaa.Sm
open Go.Proofs.Ytmdnmabbphnhaaa.Sk
open Go Go.RowKit
variable {α : Type}

/-- An entry. -/
structure Ent where
  key : ByteArray
  val : ByteArray
  seq : Nat
  gone : Bool
/-- It, as a value. -/
def enV (e : Ent) : Value := .agg #[.string e.key, .string e.val, .int .u64 (e.seq : Int), .bool e.gone]
def en0 : Ent := ⟨ByteArray.empty, ByteArray.empty, 0, false⟩

/-! ### places and links -/
abbrev Sh := List (Str × Nat)
def shape (s : List (It α)) : Sh := s.map fun y => (y.key, y.h)
def keys (r : List (It α)) : List Str := r.map (·.key)
/-- The place of a key in the row in which keys came, from 1 on. -/
def plc (ks : List Str) (k : Str) : Nat := ks.findIdx (· == k) + 1
def plo (ks : List Str) : Option (Str × Nat) → Nat
  | none => 0
  | some y => plc ks y.1
/-- Where a level's row goes on. -/
def nxt (ks : List Str) (j : Nat) (B : Sh) : Nat := plo ks (B.find? fun y => decide (j < y.2))
def tow (ks : List Str) (h : Nat) (B : Sh) : List Value := (List.range h).map fun j => .int .i64 (nxt ks j B : Int)

theorem plc_pos (ks : List Str) (k : Str) : 0 < plc ks k := Nat.succ_pos _
theorem plc_get {ks : List Str} {k : Str} (h : k ∈ ks) : ∃ i, plc ks k = i + 1 ∧ i < ks.length ∧ ks[i]? = some k := by
  refine ⟨ks.findIdx (· == k), rfl, ?_, ?_⟩
  · exact List.findIdx_lt_length_of_exists ⟨k, h, by simp⟩
  · have hl : ks.findIdx (· == k) < ks.length := List.findIdx_lt_length_of_exists ⟨k, h, by simp⟩
    have := List.findIdx_getElem (w := hl)
    rw [List.getElem?_eq_getElem hl]
    simpa using this
theorem plc_old {ks : List Str} {k x : Str} (h : k ∈ ks) : plc (ks ++ [x]) k = plc ks k := by
  unfold plc
  rw [List.findIdx_append, if_pos (List.findIdx_lt_length_of_exists ⟨k, h, by simp⟩)]
theorem plc_new {ks : List Str} {x : Str} (h : x ∉ ks) : plc (ks ++ [x]) x = ks.length + 1 := by
  unfold plc
  have e : ks.findIdx (· == x) = ks.length := by
    rw [List.findIdx_eq_length]
    intro y hy
    simp only [beq_eq_false_iff_ne]
    rintro rfl
    exact h hy
  rw [List.findIdx_append, e, if_neg (Nat.lt_irrefl _)]
  simp
theorem nxt_zero {ks : List Str} {j : Nat} {B : Sh} : nxt ks j B = 0 ↔ ∀ y ∈ B, ¬ j < y.2 := by
  unfold nxt
  cases h : B.find? (fun y => decide (j < y.2)) with
  | none =>
    rw [List.find?_eq_none] at h
    simpa [plo] using h
  | some y =>
    have h1 := List.find?_some h
    have h2 := List.mem_of_find?_eq_some h
    simp only [plo, decide_eq_true_eq] at h1 ⊢
    exact ⟨fun e => absurd e (by have := plc_pos ks y.1; omega), fun e => absurd h1 (e y h2)⟩
/-- A link leads on: to the first one behind whose tower is higher. -/
theorem nxt_some {ks : List Str} {j : Nat} {B : Sh} (h : nxt ks j B ≠ 0) : ∃ B1 y B2, B = B1 ++ y :: B2 ∧ nxt ks j B = plc ks y.1 ∧ j < y.2 ∧ ∀ z ∈ B1, ¬ j < z.2 := by
  unfold nxt at h ⊢
  cases e : B.find? (fun y => decide (j < y.2)) with
  | none => rw [e] at h; exact absurd rfl h
  | some y =>
    obtain ⟨h1, B1, B2, h2, h3⟩ := List.find?_eq_some_iff_append.1 e
    exact ⟨B1, y, B2, h2, rfl, by simpa using h1, fun z hz => by simpa using h3 z hz⟩
theorem nxt_append {ks : List Str} {j : Nat} {A B : Sh} (h : ∀ z ∈ A, ¬ j < z.2) : nxt ks j (A ++ B) = nxt ks j B := by
  unfold nxt
  rw [List.find?_append, List.find?_eq_none.2 (by simpa using h)]
  rfl
theorem nxt_here {ks : List Str} {j : Nat} {y : Str × Nat} {B : Sh} (h : j < y.2) : nxt ks j (y :: B) = plc ks y.1 := by
  unfold nxt
  rw [List.find?_cons_of_pos (by simpa using h)]
  rfl
theorem nxt_append_some {ks : List Str} {j : Nat} {A : Sh} {z : Str × Nat} (hz : z ∈ A) (h : j < z.2) (B C : Sh) : nxt ks j (A ++ B) = nxt ks j (A ++ C) := by
  unfold nxt
  rw [List.find?_append, List.find?_append]
  cases e : A.find? (fun y => decide (j < y.2)) with
  | none => exact absurd h (by simpa using List.find?_eq_none.1 e z hz)
  | some y => rfl
theorem nxt_keys {ks ks' : List Str} {j : Nat} {B : Sh} (h : ∀ y ∈ B, plc ks' y.1 = plc ks y.1) : nxt ks' j B = nxt ks j B := by
  unfold nxt
  cases e : B.find? (fun y => decide (j < y.2)) with
  | none => rfl
  | some y => exact h y (List.mem_of_find?_eq_some e)
theorem nxt_le {ks : List Str} {j : Nat} {B : Sh} (h : ∀ y ∈ B, y.1 ∈ ks) : nxt ks j B ≤ ks.length := by
  unfold nxt
  cases e : B.find? (fun y => decide (j < y.2)) with
  | none => exact Nat.zero_le _
  | some y =>
    obtain ⟨i, h1, h2, _⟩ := plc_get (h y (List.mem_of_find?_eq_some e))
    show plc ks y.1 ≤ _
    omega
theorem tow_get {ks : List Str} {h j : Nat} {B : Sh} (hj : j < h) : (tow ks h B)[j]? = some (.int .i64 (nxt ks j B : Int)) := by
  unfold tow
  simp [hj]
theorem tow_length (ks : List Str) (h : Nat) (B : Sh) : (tow ks h B).length = h := by simp [tow]

/-! ### cells of nodes -/
theorem flat_get {β : Type} {f : β → List Value} {z : Nat} (hf : ∀ y, (f y).length = z) : ∀ (r : List β) (i c : Nat) (y : β), r[i]? = some y → c < z → (r.flatMap f)[i * z + c]? = (f y)[c]?
  | [], i, c, y, h, _ => by simp at h
  | x :: r, 0, c, y, h, hc => by
    simp only [List.getElem?_cons_zero, Option.some.injEq] at h
    subst h
    rw [List.flatMap_cons, List.getElem?_append_left (by rw [hf]; omega), Nat.zero_mul, Nat.zero_add]
  | x :: r, i + 1, c, y, h, hc => by
    rw [List.getElem?_cons_succ] at h
    rw [List.flatMap_cons, List.getElem?_append_right (by rw [hf, Nat.add_mul]; omega), hf, show (i + 1) * z + c - z = i * z + c by rw [Nat.add_mul]; omega]
    exact flat_get hf r i c y h hc
def nodeCells (cv : α → Ent) (loc : Str → Nat) (y : It α) : List Value := [.string ⟨y.key.toArray⟩, .string (cv y.val).key, .string (cv y.val).val, .int .u64 ((cv y.val).seq : Int), .bool (cv y.val).gone, .slice (some ⟨loc y.key, 0, none⟩) y.h y.h]
theorem nodeCells_length (cv : α → Ent) (loc : Str → Nat) (y : It α) : (nodeCells cv loc y).length = 6 := rfl

/-- Where a list lies: its block, the slice of its nodes, each key's tower's block. -/
structure Lay where
  b : Nat
  vec : Value
  loc : Str → Nat
structure Lies (cv : α → Ent) (w : World) (L : Lay) (s r : List (It α)) : Prop where
  kin : Kin s r
  hgt : ∀ y ∈ s, 1 ≤ y.h ∧ y.h ≤ 12
  small : ∀ y ∈ s, y.key.length ≤ 1000000
  few : r.length ≤ 100000
  box : w.heap[L.b]? = some (.cells (L.vec :: tow (keys r) 12 (shape s)).toArray 68 (0, 0))
  row : w.ownsRow 0 77 6 L.vec r.length (r.flatMap (nodeCells cv L.loc))
  tower : ∀ A k h B, shape s = A ++ (k, h) :: B → w.heap[L.loc k]? = some (.cells (tow (keys r) h B).toArray 3 (0, 0))
  apart : ∀ x ∈ s, ∀ y ∈ s, x.key ≠ y.key → L.loc x.key ≠ L.loc y.key
/-- Its blocks. -/
def Own (L : Lay) (s : List (It α)) (b : Nat) : Prop := b = L.b ∨ L.vec.ownBlock = some b ∨ ∃ y ∈ s, b = L.loc y.key

section
variable {cv : α → Ent} {w w' : World} {L : Lay} {s r : List (It α)}
theorem shape_at {s : List (It α)} {y : It α} (hy : y ∈ s) : ∃ A B, shape s = A ++ (y.key, y.h) :: B := by
  obtain ⟨A, B, e⟩ := List.append_of_mem hy
  exact ⟨shape A, shape B, by rw [e]; simp [shape]⟩
theorem Lies.tall (h : Lies cv w L s r) {y : It α} (hy : y ∈ s) : ∃ cs, w.heap[L.loc y.key]? = some (.cells cs 3 (0, 0)) := by
  obtain ⟨A, B, e⟩ := shape_at hy
  exact ⟨_, h.tower A _ _ B e⟩
theorem Lies.own_lt (h : Lies cv w L s r) {b : Nat} (hb : Own L s b) : b < w.heap.size := by
  rcases hb with rfl | hv | ⟨y, hy, rfl⟩
  · exact heap_lt h.box
  · exact ownsRow_lt h.row hv
  · obtain ⟨cs, e⟩ := h.tall hy
    exact heap_lt e
/-- Of which type a block is that is its own. -/
theorem Lies.own_type (h : Lies cv w L s r) {b : Nat} (hb : Own L s b) : ∃ cs t, w.heap[b]? = some (.cells cs t (0, 0)) ∧ (t = 68 ∨ t = 77 ∨ t = 3) := by
  rcases hb with rfl | hv | ⟨y, hy, rfl⟩
  · exact ⟨_, _, h.box, Or.inl rfl⟩
  · obtain ⟨cs, e⟩ := ownsRow_obj h.row hv
    exact ⟨_, _, e, Or.inr (Or.inl rfl)⟩
  · obtain ⟨cs, e⟩ := h.tall hy
    exact ⟨_, _, e, Or.inr (Or.inr rfl)⟩
theorem shape_mem {s : List (It α)} {p : Str × Nat} (h : p ∈ shape s) : ∃ y ∈ s, p = (y.key, y.h) := by
  obtain ⟨y, h1, h2⟩ := List.mem_map.1 h
  exact ⟨y, h1, h2.symm⟩
theorem Lies.frame (h : Lies cv w L s r) (hk : ∀ b, Own L s b → w'.heap[b]? = w.heap[b]?) : Lies cv w' L s r where
  kin := h.kin
  hgt := h.hgt
  small := h.small
  few := h.few
  box := (hk _ (Or.inl rfl)).trans h.box
  row := ownsRow_frame h.row fun b hb => hk b (Or.inr (Or.inl hb))
  tower := fun A k q B e => by
    obtain ⟨y, hy, he⟩ := shape_mem (s := s) (p := (k, q)) (by rw [e]; simp)
    simp only [Prod.mk.injEq] at he
    rw [he.1] at e ⊢
    exact (hk _ (Or.inr (Or.inr ⟨y, hy, rfl⟩))).trans (h.tower A _ _ B e)
  apart := h.apart
theorem Lies.turned {P : Nat → Prop} (h : Lies cv w L s r) (ht : Turns P w w') (hP : ∀ b, Own L s b → ¬ P b) : Lies cv w' L s r :=
  h.frame fun b hb => ht.block b (h.own_lt hb) (hP b hb)
theorem Lies.below (h : Lies cv w L s r) (hb : Below w.heap.size w w') : Lies cv w' L s r := h.frame fun b ho => hb.block b (h.own_lt ho)
theorem Lies.alloc (h : Lies cv w L s r) (o : Obj) : Lies cv (w.alloc o) L s r := h.below ((Below.refl _ _).alloc (Nat.le_refl _) o)
theorem Lies.drew (h : Lies cv w L s r) : Lies cv w.drew L s r := h.frame fun _ _ => rfl

theorem mem_keys {r : List (It α)} {y : It α} (h : y ∈ r) : y.key ∈ keys r := List.mem_map.2 ⟨y, h, rfl⟩
/-- What reading a node asks of a list. -/
structure Half (cv : α → Ent) (w : World) (L : Lay) (r : List (It α)) : Prop where
  one : One r
  few : r.length ≤ 100001
  vec : w.cell? ⟨L.b, 0, none⟩ = some L.vec
  row : w.ownsRow 0 77 6 L.vec r.length (r.flatMap (nodeCells cv L.loc))
/-- A key's node. -/
theorem Half.node {cv : α → Ent} {w : World} {L : Lay} {r : List (It α)} (h : Half cv w L r) {y : It α} (hr : y ∈ r) : ∃ g cap i, L.vec = .slice (some ⟨g, 0, none⟩) r.length cap ∧ plc (keys r) y.key = i + 1 ∧ i < r.length ∧ r[i]? = some y ∧
    w.cell? ⟨g, i * 6, none⟩ = some (.string ⟨y.key.toArray⟩) ∧ (w.cell? ⟨g, i * 6 + 1, none⟩ = some (.string (cv y.val).key) ∧ w.cell? ⟨g, i * 6 + 2, none⟩ = some (.string (cv y.val).val) ∧ w.cell? ⟨g, i * 6 + 3, none⟩ = some (.int .u64 ((cv y.val).seq : Int)) ∧ w.cell? ⟨g, i * 6 + 4, none⟩ = some (.bool (cv y.val).gone)) ∧ w.cell? ⟨g, i * 6 + 5, none⟩ = some (.slice (some ⟨L.loc y.key, 0, none⟩) y.h y.h) := by
  obtain ⟨i, h1, h2, h3⟩ := plc_get (mem_keys hr)
  have hl : i < r.length := by simpa [keys] using h2
  have he : r[i]? = some y := by
    unfold keys at h3
    rw [List.getElem?_map, List.getElem?_eq_getElem hl] at h3
    simp only [Option.map_some, Option.some.injEq] at h3
    rw [List.getElem?_eq_getElem hl]
    exact congrArg some (h.one.eq (List.getElem_mem hl) hr h3)
  obtain ⟨g, cap, hv, _, _, _, _, hc⟩ := row_shape h.row (by omega)
  refine ⟨g, cap, i, hv, h1, hl, he, hc _ _ ?_, ⟨hc _ _ ?_, hc _ _ ?_, hc _ _ ?_, hc _ _ ?_⟩, hc _ _ ?_⟩
  · have := flat_get (nodeCells_length cv L.loc) r i 0 y he (by omega)
    rw [Nat.add_zero] at this
    rw [this]; rfl
  · rw [flat_get (nodeCells_length cv L.loc) r i 1 y he (by omega)]; rfl
  · rw [flat_get (nodeCells_length cv L.loc) r i 2 y he (by omega)]; rfl
  · rw [flat_get (nodeCells_length cv L.loc) r i 3 y he (by omega)]; rfl
  · rw [flat_get (nodeCells_length cv L.loc) r i 4 y he (by omega)]; rfl
  · rw [flat_get (nodeCells_length cv L.loc) r i 5 y he (by omega)]; rfl
theorem Lies.vec (h : Lies cv w L s r) : w.cell? ⟨L.b, 0, none⟩ = some L.vec := by
  rw [cell_of h.box]; rfl
theorem Lies.half (h : Lies cv w L s r) : Half cv w L r := ⟨h.kin.one, Nat.le_succ_of_le h.few, h.vec, h.row⟩
theorem Lies.node (h : Lies cv w L s r) {y : It α} (hy : y ∈ s) : ∃ g cap i, L.vec = .slice (some ⟨g, 0, none⟩) r.length cap ∧ plc (keys r) y.key = i + 1 ∧ i < r.length ∧ r[i]? = some y ∧
    w.cell? ⟨g, i * 6, none⟩ = some (.string ⟨y.key.toArray⟩) ∧ (w.cell? ⟨g, i * 6 + 1, none⟩ = some (.string (cv y.val).key) ∧ w.cell? ⟨g, i * 6 + 2, none⟩ = some (.string (cv y.val).val) ∧ w.cell? ⟨g, i * 6 + 3, none⟩ = some (.int .u64 ((cv y.val).seq : Int)) ∧ w.cell? ⟨g, i * 6 + 4, none⟩ = some (.bool (cv y.val).gone)) ∧ w.cell? ⟨g, i * 6 + 5, none⟩ = some (.slice (some ⟨L.loc y.key, 0, none⟩) y.h y.h) := h.half.node ((h.kin.mem y).1 hy)
/-- Its tower's links. -/
theorem Lies.link (h : Lies cv w L s r) {A B : Sh} {k : Str} {q j : Nat} (e : shape s = A ++ (k, q) :: B) (hj : j < q) : w.cell? ⟨L.loc k, j, none⟩ = some (.int .i64 (nxt (keys r) j B : Int)) := by
  rw [cell_of (h.tower A k q B e), List.getElem?_toArray, tow_get hj]
/-- The first links. -/
theorem Lies.first (h : Lies cv w L s r) {j : Nat} (hj : j < 12) : w.cell? ⟨L.b, 1 + j, none⟩ = some (.int .i64 (nxt (keys r) j (shape s) : Int)) := by
  rw [cell_of h.box, List.getElem?_toArray, Nat.add_comm 1 j, List.getElem?_cons_succ, tow_get hj]
theorem Lies.keys_in (h : Lies cv w L s r) {A B : Sh} (e : shape s = A ++ B) : ∀ y ∈ B, y.1 ∈ keys r := fun p hp => by
  obtain ⟨y, hy, rfl⟩ := shape_mem (s := s) (p := p) (by rw [e]; exact List.mem_append_right _ hp)
  exact mem_keys ((h.kin.mem y).1 hy)
theorem Lies.nxt_le (h : Lies cv w L s r) {A B : Sh} (e : shape s = A ++ B) (j : Nat) : nxt (keys r) j B ≤ 100000 := by
  have h1 := Sm.nxt_le (ks := keys r) (j := j) (h.keys_in e)
  have h2 : (keys r).length = r.length := by simp [keys]
  have := h.few
  omega
theorem Lies.plc_le (h : Lies cv w L s r) {y : It α} (hy : y ∈ s) : plc (keys r) y.key ≤ 100000 := by
  obtain ⟨_, _, i, _, h1, h2, _⟩ := h.node hy
  have := h.few
  omega
end
end Go.Proofs.Ytmdnmabbphnhaaa.Sm
