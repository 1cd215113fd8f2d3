/- The walk of MemPlaces: for every input it answers true, and nothing that was there has turned. -/
import Derived.Test.YthopadoabdiooaaMmH
namespace Go.Proofs.Ythopadoabdiooaa.Mm
open Go Go.RowKit Go.Proofs.Ythopadoabdiooaa.Sk Go.Proofs.Ythopadoabdiooaa.Sm
set_option linter.unusedVariables false

/-- How two texts stand, as walks ask it. -/
structure Cmp (a b : ByteArray) (lt eq : Bool) : Prop where
  less : Op.bytesLess a.toList b.toList = lt
  same : (a.toList == b.toList) = eq
theorem cmp_lt {a b : ByteArray} (h : bytesBefore a.data.toList b.data.toList = true) : Cmp a b true false := by
  refine ⟨?_, ?_⟩
  · rw [less_eq, ByteArray.toList_eq, ByteArray.toList_eq]; exact h
  · rw [ByteArray.toList_eq, ByteArray.toList_eq]; exact beq_false_of_ne (lt_ne h)
theorem cmp_gt {a b : ByteArray} (h : bytesBefore b.data.toList a.data.toList = true) : Cmp a b false false := by
  refine ⟨?_, ?_⟩
  · rw [less_eq, ByteArray.toList_eq, ByteArray.toList_eq]; exact lt_asym h
  · rw [ByteArray.toList_eq, ByteArray.toList_eq]; exact beq_false_of_ne (lt_ne h).symm
theorem cmp_self (a : ByteArray) : Cmp a a false true := ⟨by rw [less_eq]; exact Bool.eq_false_iff.2 (lt_irr _), by simp⟩
def plT (k : ByteArray) (q : Nat) : ByteArray := ⟨(place k.data.toList q).toArray⟩
theorem plT_data (k : ByteArray) (q : Nat) : (plT k q).data.toList = place k.data.toList q := rfl

set_option maxHeartbeats 4000000 in
set_option maxRecDepth 100000 in
theorem places_small (A B : ByteArray) (s t : Nat) (w : World) (hA : A.size ≤ 20000) (hB : B.size ≤ 20000) (hs : s < 18446744073709551616) (ht : t < 18446744073709551616) :
    Calls Try.prog 5 #[.string A, .string B, .int .u64 (s : Int), .int .u64 (t : Int)] w fun e w' => e = .returned (.bool true) ∧ Below w.heap.size w w' := by
  have HX : Hid (∀ W : World, Calls Try.prog 23 #[.string A, .int .u64 (s : Int)] W fun e w' => e = .returned (.string (plT A s)) ∧ Below W.heap.size W w') := Lib.hid (fun W => place_any A s W (by omega) hs)
  have HY : Hid (∀ W : World, Calls Try.prog 23 #[.string B, .int .u64 (t : Int)] W fun e w' => e = .returned (.string (plT B t)) ∧ Below W.heap.size W w') := Lib.hid (fun W => place_any B t W (by omega) ht)
  have HAW := Lib.hid awake_any
  have key : (Cmp A B true false ∧ Cmp (plT A s) (plT B t) true false) ∨ (Cmp A B false false ∧ Cmp (plT A s) (plT B t) false false) ∨
      (Cmp A B false true ∧ ((t < s ∧ Cmp (plT A s) (plT B t) true false) ∨ (s = t ∧ Cmp (plT A s) (plT B t) false true) ∨ (s < t ∧ Cmp (plT A s) (plT B t) false false))) := by
    by_cases e : A = B
    · subst e
      refine Or.inr (Or.inr ⟨cmp_self A, ?_⟩)
      rcases Nat.lt_trichotomy s t with h | h | h
      · exact Or.inr (Or.inr ⟨h, cmp_gt (by rw [plT_data, plT_data, place_seq _ ht hs]; simp [h])⟩)
      · subst h
        exact Or.inr (Or.inl ⟨rfl, cmp_self _⟩)
      · exact Or.inl ⟨h, cmp_lt (by rw [plT_data, plT_data, place_seq _ hs ht]; simp [h])⟩
    · have hne : A.data.toList ≠ B.data.toList := fun h => e (WideShapes.bytes_inj h)
      rcases lt_total hne with h | h
      · exact Or.inl ⟨cmp_lt h, cmp_lt (place_key_lt h s t)⟩
      · exact Or.inr (Or.inl ⟨cmp_gt h, cmp_gt (place_key_lt h t s)⟩)
  generalize hX : plT A s = X at *
  generalize hY : plT B t = Y at *
  have h1 : (A.size : Int) ≤ 20000 := by omega
  have h2 : (B.size : Int) ≤ 20000 := by omega
  clear hX hY hA hB hs ht
  rcases key with ⟨⟨p, q⟩, p', q'⟩ | ⟨⟨p, q⟩, p', q'⟩ | ⟨⟨p, q⟩, ⟨h, p', q'⟩ | ⟨rfl, p', q'⟩ | ⟨h, p', q'⟩⟩
  all_goals
    go_enter Try.func5, Try.ntmps5
    go_wp2_with fail
    refine (HX.out _).mono ?_
    rintro e w1 ⟨rfl, hb1⟩
    have B1 := Lib.hid hb1
    clear hb1
    go_wp2_with fail
    refine (HY.out _).mono ?_
    rintro e w2 ⟨rfl, hb2⟩
    have B2 := Lib.hid (Below.next B1.out hb2)
    clear hb2
    go_wp2_with fail
    refine (HAW.out _).mono ?_
    rintro e w3 ⟨rfl, hb3⟩
    have B3 := Lib.hid (Below.next B2.out hb3)
    clear hb3
    go_wp2_with fail
    go_ret
    first | exact ⟨rfl, B3.out⟩ | (refine ⟨congrArg (fun b => Ending.returned (.bool b)) ?_, B3.out⟩; simp; omega)
theorem places_great (A B : ByteArray) (s t : Nat) (w : World) (h : 20000 < A.size ∨ 20000 < B.size) :
    Calls Try.prog 5 #[.string A, .string B, .int .u64 (s : Int), .int .u64 (t : Int)] w fun e w' => e = .returned (.bool true) ∧ Below w.heap.size w w' := by
  have HAW := Lib.hid awake_any
  by_cases h1 : 20000 < (A.size : Int)
  · clear h
    go_enter Try.func5, Try.ntmps5
    go_wp2_with fail
    refine (HAW.out _).mono ?_
    rintro e w3 ⟨rfl, hb3⟩
    have B3 := Lib.hid hb3
    clear hb3
    go_wp2_with fail
    go_ret
    exact ⟨rfl, B3.out⟩
  · have h2 : 20000 < (B.size : Int) := by omega
    clear h
    go_enter Try.func5, Try.ntmps5
    go_wp2_with fail
    refine (HAW.out _).mono ?_
    rintro e w3 ⟨rfl, hb3⟩
    have B3 := Lib.hid hb3
    clear hb3
    go_wp2_with fail
    go_ret
    exact ⟨rfl, B3.out⟩
theorem places_walk (A B : ByteArray) (s t : Int) (w : World) (_ : A.size ≤ 9223372036854775807) (_ : B.size ≤ 9223372036854775807) (hs : 0 ≤ s ∧ s ≤ 18446744073709551615) (ht : 0 ≤ t ∧ t ≤ 18446744073709551615) :
    Calls Try.prog 5 #[.string A, .string B, .int .u64 s, .int .u64 t] w fun e w' => e = .returned (.bool true) ∧ Below w.heap.size w w' := by
  obtain ⟨s, rfl⟩ := Int.eq_ofNat_of_zero_le hs.1
  obtain ⟨t, rfl⟩ := Int.eq_ofNat_of_zero_le ht.1
  by_cases h : 20000 < A.size ∨ 20000 < B.size
  · exact places_great A B s t w h
  · exact places_small A B s t w (by omega) (by omega) (by omega) (by omega)
end Go.Proofs.Ythopadoabdiooaa.Mm
