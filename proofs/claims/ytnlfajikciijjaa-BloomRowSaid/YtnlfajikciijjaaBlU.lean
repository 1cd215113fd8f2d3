/- Rows of texts that are turned and swapped; rows of texts that may be written. -/
import Derived.Test.YtnlfajikciijjaaBlE
import Derived.Test.YtnlfajikciijjaaAppT
namespace Go.Proofs.Ytnlfajikciijjaa
open Go.RowKit
abbrev em : ByteArray := ByteArray.empty

theorem mem_getD {l : List ByteArray} {x : ByteArray} : x ∈ l ↔ ∃ j, j < l.length ∧ l.getD j em = x := by
  constructor
  · intro h
    obtain ⟨j, hj, e⟩ := List.getElem_of_mem h
    exact ⟨j, hj, by rw [getD_at hj, e]⟩
  · rintro ⟨j, hj, rfl⟩
    rw [getD_at hj]; exact List.getElem_mem hj
theorem getD_setS (l : List ByteArray) (a b : Nat) (v : ByteArray) (hb : b < l.length) : (l.set a v).getD b em = if a = b then v else l.getD b em := by
  by_cases h : a = b
  · subst h; simp [hb]
  · simp [List.getD_eq_getElem?_getD, List.getElem?_set_ne h, h]

/-- The first n keys of a row that is turned by i. -/
def rot (l : List ByteArray) (i n : Nat) : List ByteArray := (List.range n).map fun j => l.getD ((j + i) % l.length) em
theorem rot_length (l : List ByteArray) (i n : Nat) : (rot l i n).length = n := by simp [rot]
theorem rot_snoc (l : List ByteArray) (i n : Nat) : rot l i (n + 1) = rot l i n ++ [l.getD ((n + i) % l.length) em] := by simp [rot, List.range_succ]
theorem rot_get {l : List ByteArray} {i n j : Nat} (h : j < n) : (rot l i n).getD j em = l.getD ((j + i) % l.length) em := by
  unfold rot; rw [List.getD_eq_getElem?_getD, List.getElem?_map, List.getElem?_range h]; rfl
/-- The first and the last one exchanged. -/
def swp (l : List ByteArray) : List ByteArray := (l.set 0 (l.getD (l.length - 1) em)).set (l.length - 1) (l.getD 0 em)
theorem swp_length (l : List ByteArray) : (swp l).length = l.length := by simp [swp]
def sg (n j : Nat) : Nat := if j = n - 1 then 0 else if j = 0 then n - 1 else j
theorem sg_lt {n j : Nat} (h : j < n) : sg n j < n := by unfold sg; split; omega; split <;> omega
theorem sg_sg {n j : Nat} : sg n (sg n j) = j := by
  unfold sg
  by_cases h1 : j = n - 1
  · rw [if_pos h1]
    by_cases h2 : 0 = n - 1
    · rw [if_pos h2]; omega
    · rw [if_neg h2, if_pos rfl]; omega
  · rw [if_neg h1]
    by_cases h2 : j = 0
    · rw [if_pos h2, if_pos rfl]; omega
    · rw [if_neg h2, if_neg h1, if_neg h2]
theorem swp_get {l : List ByteArray} {j : Nat} (h : j < l.length) : (swp l).getD j em = l.getD (sg l.length j) em := by
  unfold swp sg
  rw [getD_setS _ _ _ _ (by simpa using h), getD_setS _ _ _ _ h]
  by_cases h1 : j = l.length - 1
  · rw [if_pos h1.symm, if_pos h1]
  · rw [if_neg (fun e => h1 e.symm), if_neg h1]
    by_cases h2 : j = 0
    · rw [if_pos h2.symm, if_pos h2]
    · rw [if_neg (fun e => h2 e.symm), if_neg h2]
theorem mod_back {n m i : Nat} (hm : m < n) (hi : i < n) : ∃ j, j < n ∧ (j + i) % n = m := by
  by_cases h : i ≤ m
  · exact ⟨m - i, by omega, by rw [Nat.sub_add_cancel h]; exact Nat.mod_eq_of_lt hm⟩
  · exact ⟨m + n - i, by omega, by rw [Nat.sub_add_cancel (by omega), Nat.add_mod_right]; exact Nat.mod_eq_of_lt hm⟩
/-- A row that is turned and swapped has the same keys. -/
theorem mem_swp_rot {l : List ByteArray} {i : Nat} (hi : i < l.length) (x : ByteArray) : x ∈ swp (rot l i l.length) ↔ x ∈ l := by
  rw [mem_getD, mem_getD, swp_length, rot_length]
  constructor
  · rintro ⟨j, hj, e⟩
    rw [swp_get (by rw [rot_length]; exact hj), rot_length, rot_get (sg_lt hj)] at e
    exact ⟨_, Nat.mod_lt _ (by omega), e⟩
  · rintro ⟨m, hm, e⟩
    obtain ⟨j, hj, hjm⟩ := mod_back hm hi
    refine ⟨sg l.length j, sg_lt hj, ?_⟩
    rw [swp_get (by rw [rot_length]; exact sg_lt hj), rot_length, sg_sg, rot_get hj, hjm]
    exact e
theorem kl_mem {a b : List ByteArray} (h : ∀ x, x ∈ a → x ∈ b) : ∀ k, k ∈ kl a → k ∈ kl b := by
  intro k hk
  obtain ⟨x, hx, rfl⟩ := List.mem_map.1 hk
  exact List.mem_map.2 ⟨x, h x hx, rfl⟩
theorem mk_turned {l : List ByteArray} {i : Nat} (hi : i < l.length) : Bl.mk (kl (swp (rot l i l.length))) = Bl.mk (kl l) :=
  Bl.mk_same (by rw [kl_length, kl_length, swp_length, rot_length]) fun k => ⟨kl_mem (fun x hx => (mem_swp_rot hi x).1 hx) k, kl_mem (fun x hx => (mem_swp_rot hi x).2 hx) k⟩
theorem mem_twin {l : List ByteArray} {i k : Nat} (hk : k < l.length) (x : ByteArray) (h : x ∈ l.set i (l.getD k em)) : x ∈ l := by
  rcases List.mem_or_eq_of_mem_set h with h | rfl
  · exact h
  · rw [getD_at hk]; exact List.getElem_mem hk
/-- No bit more: byte by byte. -/
theorem andNot_zero {a b : List UInt8} (n : Nat) (h : ∀ i, Bl.bit a i = true → Bl.bit b i = true) : bits .andNot .u8 ((a.getD n 0).toNat : Int) ((b.getD n 0).toNat : Int) = 0 := by
  rw [u8_andNot_nat _ _ (a.getD n 0).toNat_lt (b.getD n 0).toNat_lt]
  have hb : (b.getD n 0).toNat < 2 ^ 8 := (b.getD n 0).toNat_lt
  have ha : (a.getD n 0).toNat < 2 ^ 8 := (a.getD n 0).toNat_lt
  have e : (a.getD n 0).toNat &&& (255 - (b.getD n 0).toNat) = 0 := by
    apply Nat.eq_of_testBit_eq
    intro i
    rw [Nat.testBit_and, Nat.zero_testBit]
    by_cases hi : i < 8
    · have h1 := h (8 * n + i)
      unfold Bl.bit at h1
      rw [show (8 * n + i) / 8 = n by omega, show (8 * n + i) % 8 = i by omega] at h1
      have h2 := Nat.testBit_two_pow_sub_succ hb i
      rw [show 2 ^ 8 - ((b.getD n 0).toNat + 1) = 255 - (b.getD n 0).toNat by omega] at h2
      rw [h2]
      cases hx : (a.getD n 0).toNat.testBit i with
      | false => rfl
      | true => rw [h1 hx]; simp
    · rw [Nat.testBit_lt_two_pow (Nat.lt_of_lt_of_le ha (Nat.pow_le_pow_right (by decide) (by omega))), Bool.false_and]
  rw [e]; rfl

/-- In block B, from its beginning on, lie these texts, and may be written. -/
def RowS (w : World) (B : Nat) (l : List ByteArray) : Prop := ∀ i, i < l.length → w.cell? ⟨B, i, none⟩ = some (.string (l.getD i em)) ∧ w.frozen? ⟨B, i, none⟩ = false
theorem RowS.set {w : World} {B : Nat} {l : List ByteArray} (h : RowS w B l) (i : Nat) (v : ByteArray) : RowS (w.setCell ⟨B, i, none⟩ (.string v)) B (l.set i v) := by
  intro j hj
  have hj' : j < l.length := by simpa using hj
  refine ⟨?_, (World.frozen?_setCell _ _ _ _).trans (h j hj').2⟩
  rw [getD_setS _ _ _ _ hj']
  by_cases e : i = j
  · subst e
    rw [World.cell?_setCell_same _ _ _ (h i hj').1, if_pos rfl]
  · rw [World.cell?_setCell_other _ _ _ _ (show (⟨B, i, none⟩ : Addr) ≠ ⟨B, j, none⟩ from fun hc => e (by injection hc)), (h j hj').1, if_neg e]
theorem RowS.sees {w : World} {B : Nat} {l : List ByteArray} (h : RowS w B l) (hB : B < w.heap.size) (n cap : Nat) (hn : l.length = n) : SeesS w (.slice (some ⟨B, 0, none⟩) n cap) l :=
  Or.inr ⟨B, 0, cap, by rw [hn], hB, fun i hi => by rw [Nat.zero_add]; exact (h i hi).1⟩
theorem OwnsS.row {w : World} {base : Nat} {v : Value} {ss : List ByteArray} (h : OwnsS w base v ss) (hn : 0 < ss.length) : ∃ g cap, v = .slice (some ⟨g, 0, none⟩) ss.length cap ∧ base ≤ g ∧ g < w.heap.size ∧ RowS w g ss := by
  have h' : w.ownsRow base 9 1 v ss.length (ss.map .string) := h
  rcases h'.2 with ⟨rfl, h0⟩ | ⟨g, cap, cur, rfl, hb, hg, hnc, hcm, hcs, htake⟩
  · omega
  · have hcell := h'.cells (g := g) rfl
    refine ⟨g, cap, rfl, hb, heap_lt hg, fun i hi => ⟨?_, unfrozen_of hg i⟩⟩
    have e : (⟨g, 0, none⟩ : Addr).add i = ⟨g, i, none⟩ := by unfold Addr.add; split <;> simp_all
    have c0 := hcell i (.string (ss.getD i em)) (by simp [hi])
    rwa [e] at c0

end Go.Proofs.Ytnlfajikciijjaa
