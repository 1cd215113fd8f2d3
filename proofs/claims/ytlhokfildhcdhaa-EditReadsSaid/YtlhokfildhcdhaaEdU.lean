/- The document's reading of an edit: numbers. -/
import Derived.Test.YtlhokfildhcdhaaEdT
import Derived.Test.YtlhokfildhcdhaaEditOnly
namespace Go.Proofs.Ytlhokfildhcdhaa
open Go.RowKit Sk
set_option linter.unusedVariables false

theorem Ed.seq_none {α : Type} {f : List UInt8 → Option (α × Nat)} {l : List UInt8} {a k : Nat} (h : Ed.seq f l a k = none) : ∀ d, Ed.seq f l a (k + d) = none
  | 0 => h
  | d + 1 => by rw [Nat.add_succ, Ed.seq, Ed.seq_none h d]

theorem Ed.seq_no {α : Type} {f : List UInt8 → Option (α × Nat)} {l : List UInt8} {a k j : Nat} {xs : List α} (h : Ed.seq f l a k = some (xs, j)) (h2 : f (l.drop j) = none) : Ed.seq f l a (k + 1) = none := by
  rw [Ed.seq, h]
  simp only
  rw [h2]
theorem Ed.seq_yes {α : Type} {f : List UInt8 → Option (α × Nat)} {l : List UInt8} {a k j i : Nat} {xs : List α} {x : α} (h : Ed.seq f l a k = some (xs, j)) (h2 : f (l.drop j) = some (x, i)) : Ed.seq f l a (k + 1) = some (xs ++ [x], j + i) := by
  rw [Ed.seq, h]
  simp only
  rw [h2]

/-- Numbers were read, or they are not there. -/
def NumsRead (o : Option (List Nat × Nat)) (w : World) (e : Ending) (w' : World) : Prop :=
  Below w.heap.size w w' ∧ ((o = none ∧ e = .returned (.tuple #[.slice none 0 0, .int .i64 (-1)])) ∨
    ∃ ns j ao cap, o = some (ns, j) ∧ e = .returned (.tuple #[.slice ao ns.length cap, .int .i64 (j : Nat)]) ∧ OwnsN w' w.heap.size (.slice ao ns.length cap) ns)

set_option maxHeartbeats 8000000 in
theorem numsref_any (s : ByteArray) (m : Nat) (w : World) (hs : s.size ≤ 1000000) :
    Calls Try.prog 44 #[.string s, .int .i64 (m : Nat)] w (NumsRead (Ed.seq Nm.rv s.data.toList 0 m) w) := by
  obtain ⟨i0, hi, hz0, hz1, hz2⟩ := info_parts info_un
  obtain ⟨o, ho⟩ : ∃ o, Ed.seq Nm.rv s.data.toList 0 m = o := ⟨_, rfl⟩
  have HQ := Lib.hid ho
  rw [ho]
  clear ho
  have hll : s.data.toList.length = s.size := by simp
  have HLL := Lib.hid hll
  clear hll
  go_enter Try.func44, Try.ntmps44
  go_wp2_with fail
  go_loopw [6, 7] (fun u i wr => ∃ (ns : List Nat) (j : Nat), Ed.seq Nm.rv s.data.toList 0 ns.length = some (ns, j) ∧ ns.length ≤ m ∧ ns.length ≤ j ∧ j ≤ s.size ∧ i = .int .i64 (j : Nat) ∧ OwnsN wr w.heap.size u ns ∧ Below w.heap.size w wr) (fun u _ _ => m - lenOf u)
  case atStart => exact ⟨[], 0, rfl, Nat.zero_le _, Nat.zero_le _, Nat.zero_le _, rfl, OwnsN.nil _ _, Below.refl _ _⟩
  case round =>
    obtain ⟨ns, j, hq, hnm, hnj, hjs, rfl, hown, hbel⟩ := hrel
    obtain ⟨ao, cap, rfl⟩ := hown.slice
    have HO := Lib.hid hown; have HB := Lib.hid hbel; have HR := Lib.hid hq
    clear hown hbel hq
    by_cases hlt : ns.length < m
    · have hsb : (s.extract j s.size).data.toList = s.data.toList.drop j := Lib.extract_to_end s j
      have hsz : (s.extract j s.size).size ≤ 1000000 := by
        have e : (s.extract j s.size).data.toList.length = (s.extract j s.size).size := by simp
        rw [hsb, List.length_drop, HLL.out] at e
        omega
      have HV : Hid (∀ W, Calls Try.prog 42 #[.string (s.extract j s.size)] W (Gives (rvV (s.data.toList.drop j)) W)) := Lib.hid (fun W => by
        have := refReadVar_any (s.extract j s.size) W (by omega)
        rw [hsb] at this
        exact this)
      have HLE : Hid (∀ x i, Nm.rv (s.data.toList.drop j) = some (x, i) → 1 ≤ i ∧ j + i ≤ s.size ∧ x < 18446744073709551616) := Lib.hid (fun x i h => by
        obtain ⟨h1, h2, h3, h4⟩ := Nm.row_rv h
        rw [List.length_drop, HLL.out] at h2
        exact ⟨h1, by omega, h4⟩)
      clear hsb hsz
      cases hv : Nm.rv (s.data.toList.drop j) with
      | none =>
        have HG : Hid (Ed.seq Nm.rv s.data.toList 0 (ns.length + 1) = none) := Lib.hid (Ed.seq_no HR.out hv)
        have hrv : rvV (s.data.toList.drop j) = .tuple #[.int .u64 0, .int .i64 0, .bool false] := rvV_none hv
        rw [hrv] at HV
        have HZ : Hid (o = none) := Lib.hid (by
          rw [← HQ.out, show m = ns.length + 1 + (m - (ns.length + 1)) by omega]
          exact Ed.seq_none HG.out _)
        clear hrv hv HG HLE
        go_wp2_with fail
        refine (HV.out _).mono ?_
        rintro r w1 ⟨rfl, hb1⟩
        have HB1 : Hid (Below w.heap.size w w1) := Lib.hid (Below.next HB.out hb1)
        clear hb1
        go_wp2_with fail
        go_ret2
        exact ⟨HB1.out, Or.inl ⟨HZ.out, rfl⟩⟩
      | some p =>
        obtain ⟨x, i⟩ := p
        have HG : Hid (Ed.seq Nm.rv s.data.toList 0 (ns.length + 1) = some (ns ++ [x], j + i)) := Lib.hid (Ed.seq_yes HR.out hv)
        obtain ⟨l1, l2, l3⟩ := HLE.out x i hv
        have hrv : rvV (s.data.toList.drop j) = .tuple #[.int .u64 x, .int .i64 i, .bool true] := by unfold rvV; rw [hv]
        rw [hrv] at HV
        clear hrv hv HLE
        go_wp2_with fail
        refine (HV.out _).mono ?_
        rintro r w2 ⟨rfl, hb2⟩
        have hown2 := HO.out.below hb2
        have hraw : w2.ownsRow w.heap.size 27 1 (.slice ao ns.length cap) ns.length (ns.map (fun n => Value.int .u64 (n : Nat))) := hown2
        have hsz2 : w.heap.size ≤ w2.heap.size := (Below.next HB.out hb2).size
        have HB2 : Hid (Below w.heap.size w w2) := Lib.hid (Below.next HB.out hb2)
        have HQ2 : Hid (Ed.seq Nm.rv s.data.toList 0 (ns ++ [x]).length = some (ns ++ [x], j + i)) := Lib.hid (by rw [List.length_append, List.length_singleton]; exact HG.out)
        have HBD : Hid (ns.length + 1 ≤ 1000000 ∧ j + i ≤ s.size ∧ ns.length + 1 ≤ j + i) := Lib.hid ⟨by omega, l2, by omega⟩
        have HLT : Hid (ns.length + 1 ≤ m) := Lib.hid hlt
        clear hb2 HG
        go_wp2_with (at_builtin; go_must (refine wpList_append_own _ rfl _ _ 26 rfl w.heap.size 27 i0 _ 1 8 Try.underlying26 hi hz0 hz1 hz2 rfl (by decide) _ _ _ rfl (hraw.alloc _) ⟨w2.heap.size, 0, none⟩ 1 1 [.int .u64 (x : Nat)] rfl rfl (World.news_of_block (cs := #[_]) (fr := (0, 0)) (heap_alloc_new w2 _)) ?c2 ?c3 ?c4 ?c5 ?_))
        case c2 => intro u hu; simp at hu; subst hu; rfl
        case c3 => have := HBD.out.1; unfold maxLen; omega
        case c4 => have := HBD.out.1; omega
        case c5 => simp; omega
        intro v2 w3 hown3 hgrow3 _
        have R1 : OwnsN w3 w.heap.size v2 (ns ++ [x]) := OwnsN.snoc hown3
        have HB3 : Hid (Below w.heap.size w w3) := Lib.hid (HB2.out.trans (((Below.refl _ w2).alloc hsz2 _).grown hgrow3 (by simp; omega) (fun q hq => (hraw.lt q hq).1)))
        obtain ⟨ao2, cap2, rfl⟩ := R1.slice
        have HR1 := Lib.hid R1
        clear hown3 hgrow3 hraw hown2 R1
        go_wp2_with fail
        go_roundw
        case rel => exact ⟨ns ++ [x], j + i, HQ2.out, by rw [List.length_append, List.length_singleton]; exact HLT.out, by rw [List.length_append, List.length_singleton]; exact HBD.out.2.2, HBD.out.2.1, by go_num, HR1.out, HB3.out⟩
        case measure => have := HLT.out; simp [lenOf]; omega
    · have HZ : Hid (o = some (ns, j)) := Lib.hid (by rw [← HQ.out, ← HR.out, Nat.le_antisymm hnm (Nat.le_of_not_lt hlt)])
      go_wp2_with fail
      go_ret2
      exact ⟨HB.out, Or.inr ⟨ns, j, ao, cap, HZ.out, rfl, HO.out⟩⟩

end Go.Proofs.Ytlhokfildhcdhaa
