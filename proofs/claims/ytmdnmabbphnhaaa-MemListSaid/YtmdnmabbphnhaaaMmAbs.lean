/- What a memory tells, of the rising row of its places. No function is named. -/
import Derived.Test.YtmdnmabbphnhaaaSmC
import Derived.Test.YtmdnmabbphnhaaaMmMath
namespace Go.Proofs.Ytmdnmabbphnhaaa.Mm
open Go Go.RowKit Go.Proofs.Ytmdnmabbphnhaaa.Sk Go.Proofs.Ytmdnmabbphnhaaa.Sm

def placeE (e : Ent) : Str := place e.key.data.toList e.seq
structure Placed (s : List (It Ent)) : Prop where
  up : Up s
  at_ : ∀ y ∈ s, y.key = placeE y.val
  seq : ∀ y ∈ s, y.val.seq < 18446744073709551616
def ents (s : List (It Ent)) : List Ent := s.map (·.val)
theorem mem_ents {s : List (It Ent)} {e : Ent} : e ∈ ents s ↔ ∃ y ∈ s, y.val = e := List.mem_map
/-- An entry is ahead of another one. -/
def aheadE (a b : Ent) : Bool := ahead a.key.data.toList a.seq b.key.data.toList b.seq
theorem Placed.ahead {s : List (It Ent)} (h : Placed s) {y z : It Ent} (hy : y ∈ s) (hz : z ∈ s) : bytesBefore y.key z.key = aheadE y.val z.val := by
  rw [h.at_ y hy, h.at_ z hz]
  exact place_lt _ _ (h.seq y hy) (h.seq z hz)
theorem Placed.pairs {s : List (It Ent)} (h : Placed s) : (ents s).Pairwise fun a b => aheadE a b = true := by
  unfold ents
  rw [List.pairwise_map]
  exact List.Pairwise.imp_of_mem (fun {a b} ha hb hab => by rw [← h.ahead ha hb]; exact hab) h.up
theorem Placed.of {B : List (It Ent)} {s : List (It Ent)} (h : Placed s) (hs : ∀ y, y ∈ B → y ∈ s) (hu : Up B) : Placed B := ⟨hu, fun y hy => h.at_ y (hs y hy), fun y hy => h.seq y (hs y hy)⟩

/-! ### At -/
def atL (s : List (It Ent)) (k : Str) (q : Nat) : Option Ent := match seek (place k q) s with
  | some y => if y.val.key.data.toList = k then some y.val else none
  | none => none
theorem at_cut {s : List (It Ent)} (h : Placed s) {k : Str} {q : Nat} (hq : q < 18446744073709551616) {f : Ent} (hf : f ∈ ents s) (hk : f.key.data.toList = k) (hle : f.seq ≤ q) :
    ∃ z ∈ s, seek (place k q) s = some z ∧ z.val.key.data.toList = k ∧ z.val.seq ≤ q ∧ f.seq ≤ z.val.seq := by
  obtain ⟨y, hy, rfl⟩ := mem_ents.1 hf
  obtain ⟨A, B, hs, hA, hB, hsk⟩ := cutAt h.up (place k q)
  have hyb : bytesBefore y.key (place k q) = false := by
    rw [h.at_ y hy]
    unfold placeE
    rw [place_lt _ _ (h.seq y hy) hq, hk]
    unfold ahead
    have : bytesBefore k k = false := Bool.eq_false_iff.2 (lt_irr k)
    rw [this]
    simp
    omega
  have hyB : y ∈ B := by
    rw [hs] at hy
    rcases List.mem_append.1 hy with h1 | h1
    · rw [hA y h1] at hyb; cases hyb
    · exact h1
  cases B with
  | nil => cases hyB
  | cons z B =>
    have hz : z ∈ s := by rw [hs]; simp
    have hzq := hB z (by simp)
    rw [h.at_ z hz] at hzq
    unfold placeE at hzq
    rw [place_lt _ _ (h.seq z hz) hq] at hzq
    unfold ahead at hzq
    rw [Bool.or_eq_false_iff] at hzq
    refine ⟨z, hz, hsk, ?_⟩
    rcases List.mem_cons.1 hyB with e | hyB
    · rw [e] at hk hle ⊢
      exact ⟨hk, hle, Nat.le_refl _⟩
    · have hu := h.up
      rw [hs] at hu
      have h2 : Up (z :: B) := List.Pairwise.sublist (List.sublist_append_right A _) hu
      have h3 := h2.head hyB
      rw [h.ahead hz hy] at h3
      unfold aheadE Mm.ahead at h3
      rw [hk] at h3
      rw [hzq.1, Bool.false_or, Bool.and_eq_true] at h3
      have e1 : z.val.key.data.toList = k := by simpa using h3.1
      have e2 : y.val.seq < z.val.seq := by simpa using h3.2
      have e3 := hzq.2
      rw [e1] at e3
      simp at e3
      exact ⟨e1, e3, by omega⟩
theorem at_some {s : List (It Ent)} (h : Placed s) {k : Str} {q : Nat} (hq : q < 18446744073709551616) {e : Ent} (he : atL s k q = some e) : e ∈ ents s ∧ e.key.data.toList = k ∧ e.seq ≤ q ∧ ∀ f ∈ ents s, f.key.data.toList = k → f.seq ≤ q → f.seq ≤ e.seq := by
  unfold atL at he
  cases hs : seek (place k q) s with
  | none => rw [hs] at he; cases he
  | some y =>
    rw [hs] at he
    dsimp only at he
    by_cases hk : y.val.key.data.toList = k
    · rw [if_pos hk] at he
      obtain rfl := Option.some.inj he
      have hy := seek_mem hs
      have hle : y.val.seq ≤ q := by
        have h1 : bytesBefore y.key (place k q) = false := by
          have := List.find?_some hs
          simpa using this
        rw [h.at_ y hy] at h1
        unfold placeE at h1
        rw [place_lt _ _ (h.seq y hy) hq, hk] at h1
        unfold ahead at h1
        rw [Bool.or_eq_false_iff] at h1
        have := h1.2
        simp at this
        exact this
      refine ⟨mem_ents.2 ⟨y, hy, rfl⟩, hk, hle, fun f hf hfk hfq => ?_⟩
      obtain ⟨z, _, h1, _, _, h2⟩ := at_cut h hq hf hfk hfq
      rw [hs] at h1
      obtain rfl := Option.some.inj h1
      exact h2
    · rw [if_neg hk] at he; cases he
theorem at_none {s : List (It Ent)} (h : Placed s) {k : Str} {q : Nat} (hq : q < 18446744073709551616) (he : atL s k q = none) : ∀ f ∈ ents s, f.key.data.toList = k → ¬ f.seq ≤ q := fun f hf hk hle => by
  obtain ⟨z, _, h1, h2, _⟩ := at_cut h hq hf hk hle
  unfold atL at he
  rw [h1] at he
  dsimp only at he
  rw [if_pos h2] at he
  cases he
/-- Of two memories with the same entries of a key up to a number the same one counts. -/
theorem at_same {s t : List (It Ent)} (h : Placed s) (g : Placed t) {k : Str} {q : Nat} (hq : q < 18446744073709551616) (hm : ∀ e : Ent, e.key.data.toList = k → e.seq ≤ q → (e ∈ ents s ↔ e ∈ ents t)) : atL s k q = atL t k q := by
  cases e1 : atL s k q with
  | none =>
    cases e2 : atL t k q with
    | none => rfl
    | some f =>
      obtain ⟨h1, h2, h3, _⟩ := at_some g hq e2
      exact absurd h3 (at_none h hq e1 f ((hm f h2 h3).2 h1) h2)
  | some e =>
    obtain ⟨h1, h2, h3, h4⟩ := at_some h hq e1
    cases e2 : atL t k q with
    | none => exact absurd h3 (at_none g hq e2 e ((hm e h2 h3).1 h1) h2)
    | some f =>
      obtain ⟨g1, g2, g3, g4⟩ := at_some g hq e2
      have a1 := h4 f ((hm f g2 g3).2 g1) g2 g3
      have a2 := g4 e ((hm e h2 h3).1 h1) h2 h3
      congr 1
      obtain ⟨y, hy, rfl⟩ := mem_ents.1 h1
      obtain ⟨z, hz, rfl⟩ := mem_ents.1 ((hm f g2 g3).2 g1)
      have : y = z := h.up.one.eq hy hz (by rw [h.at_ y hy, h.at_ z hz]; unfold placeE; rw [h2, g2, Nat.le_antisymm a2 a1])
      rw [this]

/-! ### ranges -/
def okTo (to : Str) (e : Ent) : Bool := to.isEmpty || bytesBefore e.key.data.toList to
def inR (fr to : Str) (e : Ent) : Bool := !bytesBefore e.key.data.toList fr && okTo to e
def rangeL (s : List (It Ent)) (fr to : Str) : List Ent := (ents s).filter (inR fr to)
theorem ahead_mono {a b : Ent} (h : aheadE a b = true) {to : Str} (hb : okTo to b = true) : okTo to a = true := by
  unfold aheadE ahead at h
  unfold okTo at hb ⊢
  rw [Bool.or_eq_true] at hb h ⊢
  rcases hb with hb | hb
  · exact Or.inl hb
  · right
    rcases h with h | h
    · exact lt_trans h hb
    · rw [Bool.and_eq_true] at h
      have e : a.key.data.toList = b.key.data.toList := by simpa using h.1
      rw [e]; exact hb
section
variable {s A xs : List (It Ent)} {fr to : Str} (h : Placed s) (hs : s = A ++ xs) (hA : ∀ y ∈ A, bytesBefore y.key (place fr 18446744073709551615) = true) (hX : ∀ y ∈ xs, bytesBefore y.key (place fr 18446744073709551615) = false)
include h hs hA hX
theorem range_cut : rangeL s fr to = (ents xs).filter (okTo to) := by
  unfold rangeL
  have e : ents s = ents A ++ ents xs := by rw [hs]; simp [ents]
  rw [e, List.filter_append]
  have hmax : (18446744073709551615 : Nat) < 18446744073709551616 := by omega
  have h1 : (ents A).filter (inR fr to) = [] := by
    rw [List.filter_eq_nil_iff]
    intro f hf
    obtain ⟨y, hy, rfl⟩ := mem_ents.1 hf
    have hys : y ∈ s := by rw [hs]; exact List.mem_append_left _ hy
    have := hA y hy
    rw [h.at_ y hys] at this
    unfold placeE at this
    rw [place_lt _ _ (h.seq y hys) hmax] at this
    unfold ahead at this
    have hq := h.seq y hys
    rw [Bool.or_eq_true, Bool.and_eq_true] at this
    unfold inR
    rcases this with h2 | h2
    · rw [h2]; simp
    · exfalso
      have := h2.2
      simp at this
      omega
  rw [h1, List.nil_append]
  refine List.filter_congr fun f hf => ?_
  obtain ⟨y, hy, rfl⟩ := mem_ents.1 hf
  have hys : y ∈ s := by rw [hs]; exact List.mem_append_right _ hy
  have := hX y hy
  rw [h.at_ y hys] at this
  unfold placeE at this
  rw [place_lt _ _ (h.seq y hys) hmax] at this
  unfold ahead at this
  rw [Bool.or_eq_false_iff] at this
  unfold inR
  rw [this.1]
  rfl
theorem range_all (hall : ∀ y ∈ xs, okTo to y.val = true) : rangeL s fr to = ents xs := by
  rw [range_cut h hs hA hX, List.filter_eq_self]
  intro f hf
  obtain ⟨y, hy, rfl⟩ := mem_ents.1 hf
  exact hall y hy
theorem range_stop {pre post : List (It Ent)} {x : It Ent} (hx : xs = pre ++ x :: post) (hpre : ∀ y ∈ pre, okTo to y.val = true) (hno : okTo to x.val = false) : rangeL s fr to = ents pre := by
  rw [range_cut h hs hA hX]
  have e : ents xs = ents pre ++ x.val :: ents post := by rw [hx]; simp [ents]
  have hp := h.pairs
  have e2 : ents s = ents A ++ ents xs := by rw [hs]; simp [ents]
  rw [e2, e] at hp
  have hp2 := (List.pairwise_append.1 hp).2.1
  have hp3 := (List.pairwise_append.1 hp2).2.1
  rw [e, List.filter_append, List.filter_cons_of_neg (by rw [hno]; decide), List.filter_eq_self.2 (fun f hf => by
    obtain ⟨y, hy, rfl⟩ := mem_ents.1 hf
    exact hpre y hy), List.filter_eq_nil_iff.2 (fun f hf hc => ?_), List.append_nil]
  have := ahead_mono (List.rel_of_pairwise_cons hp3 hf) hc
  rw [hno] at this
  cases this
end

/-! ### the same entries -/
theorem sorted_same {R : Ent → Ent → Prop} (hR : ∀ a b, R a b → ¬ R b a) : ∀ {l m : List Ent}, l.Pairwise R → m.Pairwise R → (∀ e, e ∈ l ↔ e ∈ m) → l = m
  | [], [], _, _, _ => rfl
  | [], b :: m, _, _, h => absurd ((h b).2 (by simp)) (by simp)
  | a :: l, [], _, _, h => absurd ((h a).1 (by simp)) (by simp)
  | a :: l, b :: m, hl, hm, h => by
    have hab : a = b := by
      rcases List.mem_cons.1 ((h a).1 (by simp)) with e | h1
      · exact e
      · rcases List.mem_cons.1 ((h b).2 (by simp)) with e | h2
        · exact e.symm
        · exact absurd (List.rel_of_pairwise_cons hl h2) (hR _ _ (List.rel_of_pairwise_cons hm h1))
    subst hab
    have ha : ¬ R a a := fun x => hR a a x x
    congr 1
    refine sorted_same hR (List.Pairwise.of_cons hl) (List.Pairwise.of_cons hm) fun e => ?_
    constructor
    · intro he
      rcases List.mem_cons.1 ((h e).1 (by simp [he])) with e2 | h1
      · subst e2; exact absurd (List.rel_of_pairwise_cons hl he) ha
      · exact h1
    · intro he
      rcases List.mem_cons.1 ((h e).2 (by simp [he])) with e2 | h1
      · subst e2; exact absurd (List.rel_of_pairwise_cons hm he) ha
      · exact h1
theorem ahead_asym {a b : Ent} (h : aheadE a b = true) : ¬ aheadE b a = true := by
  unfold aheadE ahead at h ⊢
  intro h2
  rw [Bool.or_eq_true, Bool.and_eq_true] at h h2
  rcases h with h | ⟨e, h⟩
  · rcases h2 with h2 | ⟨e2, _⟩
    · rw [lt_asym h] at h2; cases h2
    · have e3 : b.key.data.toList = a.key.data.toList := by simpa using e2
      rw [e3] at h
      exact lt_irr _ h
  · rcases h2 with h2 | ⟨_, h2⟩
    · have e3 : a.key.data.toList = b.key.data.toList := by simpa using e
      rw [e3] at h2
      exact lt_irr _ h2
    · simp at h h2
      omega
theorem ents_same {s t : List (It Ent)} (h : Placed s) (g : Placed t) (hm : ∀ e, e ∈ ents s ↔ e ∈ ents t) : ents s = ents t := sorted_same (fun _ _ => ahead_asym) h.pairs g.pairs hm

/-! ### what all entries come to -/
def newestL : List Ent → Nat
  | [] => 0
  | e :: l => max e.seq (newestL l)
def bytesL : List Ent → Nat
  | [] => 0
  | e :: l => e.key.size + e.val.size + bytesL l
theorem newest_snoc (l : List Ent) (e : Ent) : newestL (l ++ [e]) = max (newestL l) e.seq := by
  induction l with
  | nil => simp [newestL]
  | cons a l ih => simp only [List.cons_append, newestL, ih]; omega
theorem bytes_snoc (l : List Ent) (e : Ent) : bytesL (l ++ [e]) = bytesL l + (e.key.size + e.val.size) := by
  induction l with
  | nil => simp [bytesL]
  | cons a l ih => simp only [List.cons_append, bytesL, ih]; omega
theorem newest_rev (l : List Ent) : newestL l.reverse = newestL l := by
  induction l with
  | nil => rfl
  | cons a l ih => rw [List.reverse_cons, newest_snoc, ih, newestL]; omega
theorem bytes_rev (l : List Ent) : bytesL l.reverse = bytesL l := by
  induction l with
  | nil => rfl
  | cons a l ih => rw [List.reverse_cons, bytes_snoc, ih, bytesL]; omega
theorem newest_lt {l : List Ent} (h : ∀ e ∈ l, e.seq < 18446744073709551616) : newestL l < 18446744073709551616 := by
  induction l with
  | nil => simp [newestL]
  | cons a l ih =>
    have h1 := h a (by simp)
    have h2 := ih fun e he => h e (by simp [he])
    simp only [newestL]; omega
theorem bytes_le {l : List Ent} (h : ∀ e ∈ l, e.key.size ≤ 20000 ∧ e.val.size ≤ 20000) : bytesL l ≤ 40000 * l.length := by
  induction l with
  | nil => simp [bytesL]
  | cons a l ih =>
    have h1 := h a (by simp)
    have h2 := ih fun e he => h e (by simp [he])
    simp only [bytesL, List.length_cons]; omega

/-! ### one more entry -/
theorem placed_put {s : List (It Ent)} (h : Placed s) (e : Ent) (H : Nat) (hq : e.seq < 18446744073709551616) : Placed (put ⟨placeE e, e, H⟩ s) := by
  refine ⟨up_put h.up, fun y hy => ?_, fun y hy => ?_⟩
  · rcases (mem_put h.up y).1 hy with ⟨h1, _⟩ | rfl
    · exact h.at_ y h1
    · rfl
  · rcases (mem_put h.up y).1 hy with ⟨h1, _⟩ | rfl
    · exact h.seq y h1
    · exact hq
theorem mem_ents_put {s : List (It Ent)} (h : Placed s) (e : Ent) (H : Nat) (hf : find (placeE e) s = none) (f : Ent) : f ∈ ents (put ⟨placeE e, e, H⟩ s) ↔ f ∈ ents s ∨ f = e := by
  rw [mem_ents, mem_ents]
  constructor
  · rintro ⟨y, hy, rfl⟩
    rcases (mem_put h.up y).1 hy with ⟨h1, _⟩ | rfl
    · exact Or.inl ⟨y, h1, rfl⟩
    · exact Or.inr rfl
  · rintro (⟨y, hy, rfl⟩ | rfl)
    · refine ⟨y, (mem_put h.up y).2 (Or.inl ⟨hy, ?_⟩), rfl⟩
      exact find_none.1 hf y hy
    · exact ⟨_, (mem_put h.up _).2 (Or.inr rfl), rfl⟩
theorem find_place {s : List (It Ent)} (h : Placed s) {e : Ent} (hq : e.seq < 18446744073709551616) : find (placeE e) s = none ↔ ∀ f ∈ ents s, ¬ (f.key = e.key ∧ f.seq = e.seq) := by
  rw [find_none]
  constructor
  · rintro h1 f hf ⟨e1, e2⟩
    obtain ⟨y, hy, rfl⟩ := mem_ents.1 hf
    refine h1 y hy ?_
    rw [h.at_ y hy]
    unfold placeE
    rw [e1, e2]
  · intro h1 y hy e1
    refine h1 y.val (mem_ents.2 ⟨y, hy, rfl⟩) ?_
    rw [h.at_ y hy] at e1
    obtain ⟨e2, e3⟩ := place_inj (h.seq y hy) hq e1
    exact ⟨WideShapes.bytes_inj e2, e3⟩
end Go.Proofs.Ytmdnmabbphnhaaa.Mm
