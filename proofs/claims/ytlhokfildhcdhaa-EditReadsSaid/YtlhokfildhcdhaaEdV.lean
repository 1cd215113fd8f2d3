/- The document's reading of an edit: table. -/
import Derived.Test.YtlhokfildhcdhaaEdU
namespace Go.Proofs.Ytlhokfildhcdhaa
open Go.RowKit Sk
set_option linter.unusedVariables false

def noTb : Value := .agg #[.int .u64 0, .int .i64 0, .int .i64 0, .int .i64 0, .string ⟨#[]⟩, .string ⟨#[]⟩, .int .u64 0, .int .u64 0]
/-- A table was read, or it is not there. -/
def TbRead (o : Option (Tbl × Nat)) (w : World) (e : Ending) (w' : World) : Prop :=
  Below w.heap.size w w' ∧ ((o = none ∧ e = .returned (.tuple #[noTb, .int .i64 (-1)])) ∨ ∃ t j, o = some (t, j) ∧ e = .returned (.tuple #[tbV t, .int .i64 (j : Nat)]))

theorem wrap_i (n : Nat) (h : n ≤ 9223372036854775807) : IntKind.i64.wrap (n : Int) = n := by
  rw [IntKind.wrap_i64]
  omega
theorem tx_below {w W wF : World} (h : Below w.heap.size w W) (ht : Turns (At w.heap.size) W wF) : Below w.heap.size w wF :=
  h.trans (ht.to_below h.size (fun k hk => by rw [show k = w.heap.size from hk]; exact Nat.le_refl _))

set_option maxHeartbeats 4000000 in
theorem tbref_n (s : ByteArray) (w : World) (hs : s.size ≤ 1000000) (h : Ed.seq Nm.rv s.data.toList 0 6 = none) :
    Calls Try.prog 43 #[.string s] w (TbRead (Ed.tb s.data.toList) w) := by
  have HN : Hid (∀ W, Calls Try.prog 44 #[.string s, .int .i64 6] W (NumsRead none W)) := Lib.hid (fun W => by
    have := numsref_any s 6 W hs
    rw [h] at this
    exact this)
  have HZ : Hid (Ed.tb s.data.toList = none) := Lib.hid (by unfold Ed.tb; rw [h])
  clear h hs
  have HB0 : Hid (Below w.heap.size w (w.alloc (.cells #[.int .u64 0, .int .i64 0, .int .i64 0, .int .i64 0, .string ⟨#[]⟩, .string ⟨#[]⟩, .int .u64 0, .int .u64 0] 31))) := Lib.hid ((Below.refl _ _).alloc (Nat.le_refl _) _)
  have HX0 : Hid (Tx (w.alloc (.cells #[.int .u64 0, .int .i64 0, .int .i64 0, .int .i64 0, .string ⟨#[]⟩, .string ⟨#[]⟩, .int .u64 0, .int .u64 0] 31)) w.heap.size 0 0 0 0 ⟨#[]⟩ ⟨#[]⟩ 0 0) := Lib.hid (heap_alloc_new _ _)
  go_enter Try.func43, Try.ntmps43
  go_wp2_with fail
  refine (HN.out _).mono ?_
  rintro r w1 ⟨hb1, hc⟩
  have hr : r = .returned (.tuple #[.slice none 0 0, .int .i64 (-1)]) := by
    rcases hc with ⟨_, h⟩ | ⟨_, _, _, _, h, _⟩
    · exact h
    · cases h
  subst hr
  have HB1 : Hid (Below w.heap.size w w1) := Lib.hid (Below.next HB0.out hb1)
  have HX1 : Hid (Tx w1 w.heap.size 0 0 0 0 ⟨#[]⟩ ⟨#[]⟩ 0 0) := Lib.hid (kept_block HX0.out hb1)
  clear hb1 hc HX0 HB0
  obtain ⟨r0, r1, r2, r3, r4, r5, r6, r7, rf, rlt⟩ := HX1.out.of
  go_wp2_with fail
  refine Tx.fill (P := bodyPost _ _ _ _ _) HX1.out 0 0 0 0 ⟨#[]⟩ ⟨#[]⟩ 0 0 ?_
  intro wF hF hTF
  have HFB := Lib.hid (tx_below HB1.out hTF)
  clear r0 r1 r2 r3 r4 r5 r6 r7 rf rlt
  obtain ⟨r0, r1, r2, r3, r4, r5, r6, r7, rf, rlt⟩ := hF.of
  exact bodyPost_ret (v := .tuple #[noTb, .int .i64 (-1)]) (by simp [results, Try.results43, go_sem, noTb, r0, r1, r2, r3, r4, r5, r6, r7]) rfl ⟨HFB.out, Or.inl ⟨HZ.out, rfl⟩⟩

set_option maxHeartbeats 8000000 in
theorem tbref_s (s : ByteArray) (n0 n1 n2 n3 n4 n5 j : Nat) (w : World) (hs : s.size ≤ 1000000) (h : Ed.seq Nm.rv s.data.toList 0 6 = some ([n0, n1, n2, n3, n4, n5], j)) (hj : j ≤ s.size) :
    Calls Try.prog 43 #[.string s] w (TbRead (Ed.tb s.data.toList) w) := by
  have HN : Hid (∀ W, Calls Try.prog 44 #[.string s, .int .i64 6] W (fun e w' => Below W.heap.size W w' ∧ ∃ ao cap, e = .returned (.tuple #[.slice ao 6 cap, .int .i64 (j : Nat)]) ∧ SeesU w' (.slice ao 6 cap) [n0, n1, n2, n3, n4, n5])) := Lib.hid (fun W => by
    have := numsref_any s 6 W hs
    rw [h] at this
    refine this.mono ?_
    rintro e w' ⟨hb, hc⟩
    rcases hc with ⟨h, _⟩ | ⟨ns, k, ao, cap, h, he, ho⟩
    · cases h
    · simp only [Option.some.injEq, Prod.mk.injEq] at h
      obtain ⟨rfl, rfl⟩ := h
      exact ⟨hb, ao, cap, he, ho.sees⟩)
  have HT : Hid (Ed.tb s.data.toList = if 3 < n1 ∨ 9223372036854775807 < n2 ∨ 9223372036854775807 < n3 then none else
    match rt (s.data.toList.drop j) 64 with
    | none => none
    | some (x, i) => match rt (s.data.toList.drop (j + i)) 64 with
      | none => none
      | some (y, k) => some (⟨n0, (n1 : Nat), (n2 : Nat), (n3 : Nat), ⟨x.toArray⟩, ⟨y.toArray⟩, n4, n5⟩, j + i + k)) := Lib.hid (by unfold Ed.tb; rw [h]; rfl)
  have g0 : ¬ (j : Int) < 0 := by omega
  have hll : s.data.toList.length = s.size := by simp
  have HLL := Lib.hid hll
  clear h hll
  by_cases h1 : 3 < n1
  · have HZ : Hid (Ed.tb s.data.toList = none) := Lib.hid (by rw [HT.out, if_pos (Or.inl h1)])
    have g1 : (3 : Int) < n1 := by omega
    clear HT HLL h1
    have HB0 : Hid (Below w.heap.size w (w.alloc (.cells #[.int .u64 0, .int .i64 0, .int .i64 0, .int .i64 0, .string ⟨#[]⟩, .string ⟨#[]⟩, .int .u64 0, .int .u64 0] 31))) := Lib.hid ((Below.refl _ _).alloc (Nat.le_refl _) _)
    have HX0 : Hid (Tx (w.alloc (.cells #[.int .u64 0, .int .i64 0, .int .i64 0, .int .i64 0, .string ⟨#[]⟩, .string ⟨#[]⟩, .int .u64 0, .int .u64 0] 31)) w.heap.size 0 0 0 0 ⟨#[]⟩ ⟨#[]⟩ 0 0) := Lib.hid (heap_alloc_new _ _)
    go_enter Try.func43, Try.ntmps43
    go_wp2_with fail
    refine (HN.out _).mono ?_
    rintro r w1 ⟨hb1, ao, cap, rfl, hse⟩
    obtain ⟨-, b, off, hc⟩ := hse.get
    obtain ⟨rfl, hbl, c0⟩ := hc 0 (by omega)
    have c1 := (hc 1 (by omega)).2.2
    have c2 := (hc 2 (by omega)).2.2
    have c3 := (hc 3 (by omega)).2.2
    have c4 := (hc 4 (by omega)).2.2
    have c5 := (hc 5 (by omega)).2.2
    simp only [List.getD_cons_zero, List.getD_cons_succ, Nat.add_zero] at c0 c1 c2 c3 c4 c5
    have HB1 : Hid (Below w.heap.size w w1) := Lib.hid (Below.next HB0.out hb1)
    have HX1 : Hid (Tx w1 w.heap.size 0 0 0 0 ⟨#[]⟩ ⟨#[]⟩ 0 0) := Lib.hid (kept_block HX0.out hb1)
    clear hb1 hc HX0 HB0
    obtain ⟨r0, r1, r2, r3, r4, r5, r6, r7, rf, rlt⟩ := HX1.out.of
    go_wp2_with fail
    refine Tx.fill (P := bodyPost _ _ _ _ _) HX1.out 0 0 0 0 ⟨#[]⟩ ⟨#[]⟩ 0 0 ?_
    intro wF hF hTF
    have HFB := Lib.hid (tx_below HB1.out hTF)
    clear r0 r1 r2 r3 r4 r5 r6 r7 rf rlt
    obtain ⟨r0, r1, r2, r3, r4, r5, r6, r7, rf, rlt⟩ := hF.of
    exact bodyPost_ret (v := .tuple #[noTb, .int .i64 (-1)]) (by simp [results, Try.results43, go_sem, noTb, r0, r1, r2, r3, r4, r5, r6, r7]) rfl ⟨HFB.out, Or.inl ⟨HZ.out, rfl⟩⟩
  · have g1 : ¬ (3 : Int) < n1 := by omega
    by_cases h2 : 9223372036854775807 < n2
    · have HZ : Hid (Ed.tb s.data.toList = none) := Lib.hid (by rw [HT.out, if_pos (Or.inr (Or.inl h2))])
      have g2 : (9223372036854775807 : Int) < n2 := by omega
      clear HT HLL h2
      have HB0 : Hid (Below w.heap.size w (w.alloc (.cells #[.int .u64 0, .int .i64 0, .int .i64 0, .int .i64 0, .string ⟨#[]⟩, .string ⟨#[]⟩, .int .u64 0, .int .u64 0] 31))) := Lib.hid ((Below.refl _ _).alloc (Nat.le_refl _) _)
      have HX0 : Hid (Tx (w.alloc (.cells #[.int .u64 0, .int .i64 0, .int .i64 0, .int .i64 0, .string ⟨#[]⟩, .string ⟨#[]⟩, .int .u64 0, .int .u64 0] 31)) w.heap.size 0 0 0 0 ⟨#[]⟩ ⟨#[]⟩ 0 0) := Lib.hid (heap_alloc_new _ _)
      go_enter Try.func43, Try.ntmps43
      go_wp2_with fail
      refine (HN.out _).mono ?_
      rintro r w1 ⟨hb1, ao, cap, rfl, hse⟩
      obtain ⟨-, b, off, hc⟩ := hse.get
      obtain ⟨rfl, hbl, c0⟩ := hc 0 (by omega)
      have c1 := (hc 1 (by omega)).2.2
      have c2 := (hc 2 (by omega)).2.2
      have c3 := (hc 3 (by omega)).2.2
      have c4 := (hc 4 (by omega)).2.2
      have c5 := (hc 5 (by omega)).2.2
      simp only [List.getD_cons_zero, List.getD_cons_succ, Nat.add_zero] at c0 c1 c2 c3 c4 c5
      have HB1 : Hid (Below w.heap.size w w1) := Lib.hid (Below.next HB0.out hb1)
      have HX1 : Hid (Tx w1 w.heap.size 0 0 0 0 ⟨#[]⟩ ⟨#[]⟩ 0 0) := Lib.hid (kept_block HX0.out hb1)
      clear hb1 hc HX0 HB0
      obtain ⟨r0, r1, r2, r3, r4, r5, r6, r7, rf, rlt⟩ := HX1.out.of
      go_wp2_with fail
      refine Tx.fill (P := bodyPost _ _ _ _ _) HX1.out 0 0 0 0 ⟨#[]⟩ ⟨#[]⟩ 0 0 ?_
      intro wF hF hTF
      have HFB := Lib.hid (tx_below HB1.out hTF)
      clear r0 r1 r2 r3 r4 r5 r6 r7 rf rlt
      obtain ⟨r0, r1, r2, r3, r4, r5, r6, r7, rf, rlt⟩ := hF.of
      exact bodyPost_ret (v := .tuple #[noTb, .int .i64 (-1)]) (by simp [results, Try.results43, go_sem, noTb, r0, r1, r2, r3, r4, r5, r6, r7]) rfl ⟨HFB.out, Or.inl ⟨HZ.out, rfl⟩⟩
    · have g2 : ¬ (9223372036854775807 : Int) < n2 := by omega
      by_cases h3 : 9223372036854775807 < n3
      · have HZ : Hid (Ed.tb s.data.toList = none) := Lib.hid (by rw [HT.out, if_pos (Or.inr (Or.inr h3))])
        have g3 : (9223372036854775807 : Int) < n3 := by omega
        clear HT HLL h3
        have HB0 : Hid (Below w.heap.size w (w.alloc (.cells #[.int .u64 0, .int .i64 0, .int .i64 0, .int .i64 0, .string ⟨#[]⟩, .string ⟨#[]⟩, .int .u64 0, .int .u64 0] 31))) := Lib.hid ((Below.refl _ _).alloc (Nat.le_refl _) _)
        have HX0 : Hid (Tx (w.alloc (.cells #[.int .u64 0, .int .i64 0, .int .i64 0, .int .i64 0, .string ⟨#[]⟩, .string ⟨#[]⟩, .int .u64 0, .int .u64 0] 31)) w.heap.size 0 0 0 0 ⟨#[]⟩ ⟨#[]⟩ 0 0) := Lib.hid (heap_alloc_new _ _)
        go_enter Try.func43, Try.ntmps43
        go_wp2_with fail
        refine (HN.out _).mono ?_
        rintro r w1 ⟨hb1, ao, cap, rfl, hse⟩
        obtain ⟨-, b, off, hc⟩ := hse.get
        obtain ⟨rfl, hbl, c0⟩ := hc 0 (by omega)
        have c1 := (hc 1 (by omega)).2.2
        have c2 := (hc 2 (by omega)).2.2
        have c3 := (hc 3 (by omega)).2.2
        have c4 := (hc 4 (by omega)).2.2
        have c5 := (hc 5 (by omega)).2.2
        simp only [List.getD_cons_zero, List.getD_cons_succ, Nat.add_zero] at c0 c1 c2 c3 c4 c5
        have HB1 : Hid (Below w.heap.size w w1) := Lib.hid (Below.next HB0.out hb1)
        have HX1 : Hid (Tx w1 w.heap.size 0 0 0 0 ⟨#[]⟩ ⟨#[]⟩ 0 0) := Lib.hid (kept_block HX0.out hb1)
        clear hb1 hc HX0 HB0
        obtain ⟨r0, r1, r2, r3, r4, r5, r6, r7, rf, rlt⟩ := HX1.out.of
        go_wp2_with fail
        refine Tx.fill (P := bodyPost _ _ _ _ _) HX1.out 0 0 0 0 ⟨#[]⟩ ⟨#[]⟩ 0 0 ?_
        intro wF hF hTF
        have HFB := Lib.hid (tx_below HB1.out hTF)
        clear r0 r1 r2 r3 r4 r5 r6 r7 rf rlt
        obtain ⟨r0, r1, r2, r3, r4, r5, r6, r7, rf, rlt⟩ := hF.of
        exact bodyPost_ret (v := .tuple #[noTb, .int .i64 (-1)]) (by simp [results, Try.results43, go_sem, noTb, r0, r1, r2, r3, r4, r5, r6, r7]) rfl ⟨HFB.out, Or.inl ⟨HZ.out, rfl⟩⟩
      · have g3 : ¬ (9223372036854775807 : Int) < n3 := by omega
        have HT2 : Hid (Ed.tb s.data.toList = match rt (s.data.toList.drop j) 64 with
            | none => none
            | some (x, i) => match rt (s.data.toList.drop (j + i)) 64 with
              | none => none
              | some (y, k) => some (⟨n0, (n1 : Nat), (n2 : Nat), (n3 : Nat), ⟨x.toArray⟩, ⟨y.toArray⟩, n4, n5⟩, j + i + k)) := Lib.hid (by rw [HT.out, if_neg (by omega)])
        have hw1 : IntKind.i64.wrap (n1 : Int) = n1 := wrap_i _ (by omega)
        have hw2 : IntKind.i64.wrap (n2 : Int) = n2 := wrap_i _ (by omega)
        have hw3 : IntKind.i64.wrap (n3 : Int) = n3 := wrap_i _ (by omega)
        have hs1 : (s.extract j s.size).data.toList = s.data.toList.drop j := Lib.extract_to_end s j
        have hz1 : (s.extract j s.size).size ≤ 1000000 := by
          have e : (s.extract j s.size).data.toList.length = (s.extract j s.size).size := by simp
          rw [hs1, List.length_drop, HLL.out] at e
          omega
        have HK1 : Hid (∀ W, Calls Try.prog 55 #[.string (s.extract j s.size), .int .i64 64] W (Gives (rtV (s.data.toList.drop j) 64) W)) := Lib.hid (fun W => by
          have := refReadText_any (s.extract j s.size) 64 W (by omega)
          rw [hs1] at this
          exact this)
        clear hs1 hz1 HT h1 h2 h3
        cases hk1 : rt (s.data.toList.drop j) 64 with
        | none =>
          have HZ : Hid (Ed.tb s.data.toList = none) := Lib.hid (by rw [HT2.out, hk1])
          have e : rtV (s.data.toList.drop j) 64 = .tuple #[.string ⟨#[]⟩, .int .i64 0, .bool false] := by unfold rtV; rw [hk1]; rfl
          rw [e] at HK1
          clear HT2 HLL hk1 e
          have HB0 : Hid (Below w.heap.size w (w.alloc (.cells #[.int .u64 0, .int .i64 0, .int .i64 0, .int .i64 0, .string ⟨#[]⟩, .string ⟨#[]⟩, .int .u64 0, .int .u64 0] 31))) := Lib.hid ((Below.refl _ _).alloc (Nat.le_refl _) _)
          have HX0 : Hid (Tx (w.alloc (.cells #[.int .u64 0, .int .i64 0, .int .i64 0, .int .i64 0, .string ⟨#[]⟩, .string ⟨#[]⟩, .int .u64 0, .int .u64 0] 31)) w.heap.size 0 0 0 0 ⟨#[]⟩ ⟨#[]⟩ 0 0) := Lib.hid (heap_alloc_new _ _)
          go_enter Try.func43, Try.ntmps43
          go_wp2_with fail
          refine (HN.out _).mono ?_
          rintro r w1 ⟨hb1, ao, cap, rfl, hse⟩
          obtain ⟨-, b, off, hc⟩ := hse.get
          obtain ⟨rfl, hbl, c0⟩ := hc 0 (by omega)
          have c1 := (hc 1 (by omega)).2.2
          have c2 := (hc 2 (by omega)).2.2
          have c3 := (hc 3 (by omega)).2.2
          have c4 := (hc 4 (by omega)).2.2
          have c5 := (hc 5 (by omega)).2.2
          simp only [List.getD_cons_zero, List.getD_cons_succ, Nat.add_zero] at c0 c1 c2 c3 c4 c5
          have HB1 : Hid (Below w.heap.size w w1) := Lib.hid (Below.next HB0.out hb1)
          have HX1 : Hid (Tx w1 w.heap.size 0 0 0 0 ⟨#[]⟩ ⟨#[]⟩ 0 0) := Lib.hid (kept_block HX0.out hb1)
          clear hb1 hc HX0 HB0
          go_wp2_with fail
          refine (HK1.out _).mono ?_
          rintro r w2 ⟨rfl, hb2⟩
          have HB2 : Hid (Below w.heap.size w w2) := Lib.hid (Below.next HB1.out hb2)
          have HX2 : Hid (Tx w2 w.heap.size 0 0 0 0 ⟨#[]⟩ ⟨#[]⟩ 0 0) := Lib.hid (kept_block HX1.out hb2)
          clear hb2
          obtain ⟨r0, r1, r2, r3, r4, r5, r6, r7, rf, rlt⟩ := HX2.out.of
          go_wp2_with fail
          refine Tx.fill (P := bodyPost _ _ _ _ _) HX2.out 0 0 0 0 ⟨#[]⟩ ⟨#[]⟩ 0 0 ?_
          intro wF hF hTF
          have HFB := Lib.hid (tx_below HB2.out hTF)
          clear r0 r1 r2 r3 r4 r5 r6 r7 rf rlt
          obtain ⟨r0, r1, r2, r3, r4, r5, r6, r7, rf, rlt⟩ := hF.of
          exact bodyPost_ret (v := .tuple #[noTb, .int .i64 (-1)]) (by simp [results, Try.results43, go_sem, noTb, r0, r1, r2, r3, r4, r5, r6, r7]) rfl ⟨HFB.out, Or.inl ⟨HZ.out, rfl⟩⟩
        | some q =>
          obtain ⟨x, i⟩ := q
          obtain ⟨-, -, hx3, hx4⟩ := Ed.row_rt hk1
          rw [List.length_drop, HLL.out] at hx3
          have e : rtV (s.data.toList.drop j) 64 = .tuple #[.string ⟨x.toArray⟩, .int .i64 i, .bool true] := by unfold rtV; rw [hk1]
          rw [e] at HK1
          have HT3 : Hid (Ed.tb s.data.toList = match rt (s.data.toList.drop (j + i)) 64 with
              | none => none
              | some (y, k) => some (⟨n0, (n1 : Nat), (n2 : Nat), (n3 : Nat), ⟨x.toArray⟩, ⟨y.toArray⟩, n4, n5⟩, j + i + k)) := Lib.hid (by rw [HT2.out, hk1])
          have hs2 : (s.extract (j + i) s.size).data.toList = s.data.toList.drop (j + i) := Lib.extract_to_end s (j + i)
          have hz2 : (s.extract (j + i) s.size).size ≤ 1000000 := by
            have e : (s.extract (j + i) s.size).data.toList.length = (s.extract (j + i) s.size).size := by simp
            rw [hs2, List.length_drop, HLL.out] at e
            omega
          have HK2 : Hid (∀ W, Calls Try.prog 55 #[.string (s.extract (j + i) s.size), .int .i64 64] W (Gives (rtV (s.data.toList.drop (j + i)) 64) W)) := Lib.hid (fun W => by
            have := refReadText_any (s.extract (j + i) s.size) 64 W (by omega)
            rw [hs2] at this
            exact this)
          have hji : (j : Int) + i ≤ s.size := by omega
          have hwj : IntKind.i64.wrap ((j : Int) + i) = j + i := by rw [show ((j : Int) + i) = ((j + i : Nat) : Int) by omega]; exact wrap_i _ (by omega)
          clear hs2 hz2 HT2 hk1 e
          generalize (⟨x.toArray⟩ : ByteArray) = X at *
          cases hk2 : rt (s.data.toList.drop (j + i)) 64 with
          | none =>
            have HZ : Hid (Ed.tb s.data.toList = none) := Lib.hid (by rw [HT3.out, hk2])
            have e : rtV (s.data.toList.drop (j + i)) 64 = .tuple #[.string ⟨#[]⟩, .int .i64 0, .bool false] := by unfold rtV; rw [hk2]; rfl
            rw [e] at HK2
            clear HT3 HLL hk2 e
            have HB0 : Hid (Below w.heap.size w (w.alloc (.cells #[.int .u64 0, .int .i64 0, .int .i64 0, .int .i64 0, .string ⟨#[]⟩, .string ⟨#[]⟩, .int .u64 0, .int .u64 0] 31))) := Lib.hid ((Below.refl _ _).alloc (Nat.le_refl _) _)
            have HX0 : Hid (Tx (w.alloc (.cells #[.int .u64 0, .int .i64 0, .int .i64 0, .int .i64 0, .string ⟨#[]⟩, .string ⟨#[]⟩, .int .u64 0, .int .u64 0] 31)) w.heap.size 0 0 0 0 ⟨#[]⟩ ⟨#[]⟩ 0 0) := Lib.hid (heap_alloc_new _ _)
            go_enter Try.func43, Try.ntmps43
            go_wp2_with fail
            refine (HN.out _).mono ?_
            rintro r w1 ⟨hb1, ao, cap, rfl, hse⟩
            obtain ⟨-, b, off, hc⟩ := hse.get
            obtain ⟨rfl, hbl, c0⟩ := hc 0 (by omega)
            have c1 := (hc 1 (by omega)).2.2
            have c2 := (hc 2 (by omega)).2.2
            have c3 := (hc 3 (by omega)).2.2
            have c4 := (hc 4 (by omega)).2.2
            have c5 := (hc 5 (by omega)).2.2
            simp only [List.getD_cons_zero, List.getD_cons_succ, Nat.add_zero] at c0 c1 c2 c3 c4 c5
            have HB1 : Hid (Below w.heap.size w w1) := Lib.hid (Below.next HB0.out hb1)
            have HX1 : Hid (Tx w1 w.heap.size 0 0 0 0 ⟨#[]⟩ ⟨#[]⟩ 0 0) := Lib.hid (kept_block HX0.out hb1)
            clear hb1 hc HX0 HB0
            go_wp2_with fail
            refine (HK1.out _).mono ?_
            rintro r w2 ⟨rfl, hb2⟩
            have HB2 : Hid (Below w.heap.size w w2) := Lib.hid (Below.next HB1.out hb2)
            have HX2 : Hid (Tx w2 w.heap.size 0 0 0 0 ⟨#[]⟩ ⟨#[]⟩ 0 0) := Lib.hid (kept_block HX1.out hb2)
            clear hb2
            go_wp2_with fail
            refine (HK2.out _).mono ?_
            rintro r w3 ⟨rfl, hb3⟩
            have HB3 : Hid (Below w.heap.size w w3) := Lib.hid (Below.next HB2.out hb3)
            have HX3 : Hid (Tx w3 w.heap.size 0 0 0 0 ⟨#[]⟩ ⟨#[]⟩ 0 0) := Lib.hid (kept_block HX2.out hb3)
            clear hb3
            obtain ⟨r0, r1, r2, r3, r4, r5, r6, r7, rf, rlt⟩ := HX3.out.of
            go_wp2_with fail
            refine Tx.fill (P := bodyPost _ _ _ _ _) HX3.out 0 0 0 0 ⟨#[]⟩ ⟨#[]⟩ 0 0 ?_
            intro wF hF hTF
            have HFB := Lib.hid (tx_below HB3.out hTF)
            clear r0 r1 r2 r3 r4 r5 r6 r7 rf rlt
            obtain ⟨r0, r1, r2, r3, r4, r5, r6, r7, rf, rlt⟩ := hF.of
            exact bodyPost_ret (v := .tuple #[noTb, .int .i64 (-1)]) (by simp [results, Try.results43, go_sem, noTb, r0, r1, r2, r3, r4, r5, r6, r7]) rfl ⟨HFB.out, Or.inl ⟨HZ.out, rfl⟩⟩
          | some q =>
            obtain ⟨y, u⟩ := q
            obtain ⟨-, -, hy3, hy4⟩ := Ed.row_rt hk2
            rw [List.length_drop, HLL.out] at hy3
            have e : rtV (s.data.toList.drop (j + i)) 64 = .tuple #[.string ⟨y.toArray⟩, .int .i64 u, .bool true] := by unfold rtV; rw [hk2]
            rw [e] at HK2
            have HZ : Hid (Ed.tb s.data.toList = some (⟨n0, (n1 : Nat), (n2 : Nat), (n3 : Nat), X, ⟨y.toArray⟩, n4, n5⟩, j + i + u)) := Lib.hid (by rw [HT3.out, hk2])
            have hwu : IntKind.i64.wrap ((j : Int) + i + u) = j + i + u := by rw [show ((j : Int) + i + u) = ((j + i + u : Nat) : Int) by omega]; exact wrap_i _ (by omega)
            clear HT3 HLL hk2 e
            generalize (⟨y.toArray⟩ : ByteArray) = Y at *
            have HB0 : Hid (Below w.heap.size w (w.alloc (.cells #[.int .u64 0, .int .i64 0, .int .i64 0, .int .i64 0, .string ⟨#[]⟩, .string ⟨#[]⟩, .int .u64 0, .int .u64 0] 31))) := Lib.hid ((Below.refl _ _).alloc (Nat.le_refl _) _)
            have HX0 : Hid (Tx (w.alloc (.cells #[.int .u64 0, .int .i64 0, .int .i64 0, .int .i64 0, .string ⟨#[]⟩, .string ⟨#[]⟩, .int .u64 0, .int .u64 0] 31)) w.heap.size 0 0 0 0 ⟨#[]⟩ ⟨#[]⟩ 0 0) := Lib.hid (heap_alloc_new _ _)
            go_enter Try.func43, Try.ntmps43
            go_wp2_with fail
            refine (HN.out _).mono ?_
            rintro r w1 ⟨hb1, ao, cap, rfl, hse⟩
            obtain ⟨-, b, off, hc⟩ := hse.get
            obtain ⟨rfl, hbl, c0⟩ := hc 0 (by omega)
            have c1 := (hc 1 (by omega)).2.2
            have c2 := (hc 2 (by omega)).2.2
            have c3 := (hc 3 (by omega)).2.2
            have c4 := (hc 4 (by omega)).2.2
            have c5 := (hc 5 (by omega)).2.2
            simp only [List.getD_cons_zero, List.getD_cons_succ, Nat.add_zero] at c0 c1 c2 c3 c4 c5
            have HB1 : Hid (Below w.heap.size w w1) := Lib.hid (Below.next HB0.out hb1)
            have HX1 : Hid (Tx w1 w.heap.size 0 0 0 0 ⟨#[]⟩ ⟨#[]⟩ 0 0) := Lib.hid (kept_block HX0.out hb1)
            clear hb1 hc HX0 HB0
            have hk1 := fun (v : World) (h : Below w1.heap.size w1 v) => And.intro ((h.cell (p := ⟨b, off, none⟩) hbl).trans c0) (And.intro ((h.cell (p := ⟨b, off + 1, none⟩) hbl).trans c1) (And.intro ((h.cell (p := ⟨b, off + 2, none⟩) hbl).trans c2) (And.intro ((h.cell (p := ⟨b, off + 3, none⟩) hbl).trans c3) (And.intro ((h.cell (p := ⟨b, off + 4, none⟩) hbl).trans c4) ((h.cell (p := ⟨b, off + 5, none⟩) hbl).trans c5)))))
            have HCK := Lib.hid hk1
            clear hk1
            go_wp2_with fail
            refine (HK1.out _).mono ?_
            rintro r w2 ⟨rfl, hb2⟩
            have HB2 : Hid (Below w.heap.size w w2) := Lib.hid (Below.next HB1.out hb2)
            have HX2 : Hid (Tx w2 w.heap.size 0 0 0 0 ⟨#[]⟩ ⟨#[]⟩ 0 0) := Lib.hid (kept_block HX1.out hb2)
            have HW2 : Hid (Below w1.heap.size w1 w2) := Lib.hid hb2
            clear hb2
            go_wp2_with fail
            refine (HK2.out _).mono ?_
            rintro r w3 ⟨rfl, hb3⟩
            have HB3 : Hid (Below w.heap.size w w3) := Lib.hid (Below.next HB2.out hb3)
            have HX3 : Hid (Tx w3 w.heap.size 0 0 0 0 ⟨#[]⟩ ⟨#[]⟩ 0 0) := Lib.hid (kept_block HX2.out hb3)
            obtain ⟨c0, c1, c2, c3, c4, c5⟩ := HCK.out w3 (Below.next HW2.out hb3)
            have hbl3 : b < w3.heap.size := Nat.lt_of_lt_of_le hbl (Below.next HW2.out hb3).size
            clear hb3 HW2 HCK
            obtain ⟨r0, r1, r2, r3, r4, r5, r6, r7, rf, rlt⟩ := HX3.out.of
            go_wp2_with fail
            have f0 := rf 0; have f1 := rf 1; have f2 := rf 2; have f3 := rf 3; have f4 := rf 4; have f5 := rf 5; have f6 := rf 6; have f7 := rf 7
            go_region
            clear f0 f1 f2 f3 f4 f5 f6 f7 c0 c1 c2 c3 c4 c5
            go_wp2_with fail
            obtain ⟨wF, hw, hF, hTF⟩ : ∃ wF, wF = ((((((((w3.setCell ⟨w.heap.size, 0, none⟩ (.int .u64 (n0 : Nat))).setCell ⟨w.heap.size, 1, none⟩ (.int .i64 (n1 : Nat))).setCell ⟨w.heap.size, 2, none⟩ (.int .i64 (n2 : Nat))).setCell ⟨w.heap.size, 3, none⟩ (.int .i64 (n3 : Nat))).setCell ⟨w.heap.size, 4, none⟩ (.string X)).setCell ⟨w.heap.size, 5, none⟩ (.string Y)).setCell ⟨w.heap.size, 6, none⟩ (.int .u64 (n4 : Nat))).setCell ⟨w.heap.size, 7, none⟩ (.int .u64 (n5 : Nat))) ∧ Tx wF w.heap.size n0 (n1 : Nat) (n2 : Nat) (n3 : Nat) X Y n4 n5 ∧ Turns (At w.heap.size) w3 wF := ⟨_, rfl, Tx.fill (P := fun W => Tx W w.heap.size n0 (n1 : Nat) (n2 : Nat) (n3 : Nat) X Y n4 n5 ∧ Turns (At w.heap.size) w3 W) HX3.out n0 (n1 : Nat) (n2 : Nat) (n3 : Nat) X Y n4 n5 (fun wF a b => ⟨a, b⟩)⟩
            rw [← hw]
            clear hw r0 r1 r2 r3 r4 r5 r6 r7 rf rlt
            have HFB : Hid (Below w.heap.size w wF.drew) := Lib.hid (tx_below HB3.out hTF).drew
            have hG : Tx wF.drew w.heap.size n0 (n1 : Nat) (n2 : Nat) (n3 : Nat) X Y n4 n5 := hF
            clear hF hTF
            generalize wF.drew = wG at *
            obtain ⟨r0, r1, r2, r3, r4, r5, r6, r7, rf, rlt⟩ := hG.of
            exact bodyPost_ret (v := .tuple #[tbV ⟨n0, (n1 : Nat), (n2 : Nat), (n3 : Nat), X, Y, n4, n5⟩, .int .i64 ((j + i + u : Nat) : Int)]) (by simp [results, Try.results43, go_sem, tbV, r0, r1, r2, r3, r4, r5, r6, r7]) rfl ⟨HFB.out, Or.inr ⟨_, _, HZ.out, rfl⟩⟩

        /-- The document's table. -/
        theorem tbref_any (s : ByteArray) (w : World) (hs : s.size ≤ 1000000) : Calls Try.prog 43 #[.string s] w (TbRead (Ed.tb s.data.toList) w) := by
          cases h : Ed.seq Nm.rv s.data.toList 0 6 with
          | none => exact tbref_n s w hs h
          | some p =>
            obtain ⟨ns, j⟩ := p
            obtain ⟨e1, -, e3, -, -⟩ := Ed.seq_snd Ed.rv_snd s.data.toList 0 (Nat.zero_le _) 6 ns j h
            have e := Ed.six e1
            rw [e] at h
            have hl : s.data.toList.length = s.size := by simp
            exact tbref_s s _ _ _ _ _ _ j w hs h (by omega)

end Go.Proofs.Ytlhokfildhcdhaa
