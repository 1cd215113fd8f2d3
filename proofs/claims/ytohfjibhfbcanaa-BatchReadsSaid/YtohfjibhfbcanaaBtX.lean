/- The walk of the document's Decode. -/
import Derived.Test.YtohfjibhfbcanaaBtS
import Derived.Test.YtohfjibhfbcanaaBtG
import Derived.BigQuiet
import Derived.Lib.Builder
namespace Go.Proofs.Ytohfjibhfbcanaa
open Go.RowKit
set_option linter.unusedVariables false
set_option linter.unusedSimpArgs false

def contR (os : List Ob) (z : Nat) : Option (List Ob × Nat) → Option (List Ob × Nat)
  | none => none
  | some (os', m) => some (os ++ os', z + m)
theorem contR_end (os : List Ob) (z : Nat) (l : List UInt8) : contR os z (Bt.many Bt.rr 0 l) = some (os, z) := by simp [Bt.many, contR]
theorem contR_none (os : List Ob) (z j : Nat) (l : List UInt8) (h : Bt.rr l = none) : contR os z (Bt.many Bt.rr (j + 1) l) = none := by rw [Bt.many, h]; rfl
theorem contR_some (os : List Ob) (z j k : Nat) (o : Ob) (l : List UInt8) (h : Bt.rr (l.drop z) = some (o, k)) : contR os z (Bt.many Bt.rr (j + 1) (l.drop z)) = contR (os ++ [o]) (z + k) (Bt.many Bt.rr j (l.drop (z + k))) := by
  rw [Bt.many, h]
  simp only
  rw [List.drop_drop]
  cases Bt.many Bt.rr j (l.drop (z + k)) with
  | none => rfl
  | some x => simp [contR, Nat.add_assoc]

theorem str_eq' {a b : ByteArray} (h : a.toList = b.toList) : a = b := by
  rw [ByteArray.toList_eq, ByteArray.toList_eq] at h
  exact ByteArray.ext (Array.toList_inj.1 h)

/-- The variable of the result, as it was made. -/
def RV (B : Nat) (w : World) : Prop := w.cell? ⟨B, 0, none⟩ = some (.int .u64 0) ∧ w.cell? ⟨B, 1, none⟩ = some (.slice none 0 0) ∧ w.frozen? ⟨B, 0, none⟩ = false ∧ w.frozen? ⟨B, 1, none⟩ = false
theorem RV.below {B : Nat} {w w' : World} (h : RV B w) (hb : Below w.heap.size w w') (hB : B < w.heap.size) : RV B w' :=
  ⟨(hb.cell (p := ⟨B, 0, none⟩) hB).trans h.1, (hb.cell (p := ⟨B, 1, none⟩) hB).trans h.2.1, (hb.frozen (p := ⟨B, 0, none⟩) hB).trans h.2.2.1, (hb.frozen (p := ⟨B, 1, none⟩) hB).trans h.2.2.2⟩
theorem RV.new (w : World) : RV w.heap.size (w.alloc (.cells #[.int .u64 0, .slice none 0 0] 43)) := by
  have h := heap_alloc_new w (.cells #[.int .u64 0, .slice none 0 0] 43)
  refine ⟨?_, ?_, Lib.frozen_of_heap h 0, Lib.frozen_of_heap h 1⟩
  · rw [World.cell?_alloc_new]; rfl
  · rw [World.cell?_alloc_new]; rfl

theorem heap_at (w : World) (o : Obj) {k : Nat} (h : k = w.heap.size) : (w.alloc o).heap[k]? = some o := by subst h; exact heap_alloc_new w o
theorem frozen_far {w w' : World} {row : Option Nat} (hg : w.grownBy w' row) (b o : Nat) (hlt : b < w.heap.size) (hne : some b ≠ row) : w'.frozen? ⟨b, o, none⟩ = w.frozen? ⟨b, o, none⟩ := by
  have h := hg.block b hlt hne
  unfold World.frozen?
  simp only
  rw [h]
theorem RV.far {B : Nat} {w w' : World} {row : Option Nat} (h : RV B w) (hg : w.grownBy w' row) (hB : B < w.heap.size) (hne : some B ≠ row) : RV B w' :=
  ⟨(hg.cell_far ⟨B, 0, none⟩ hB hne).trans h.1, (hg.cell_far ⟨B, 1, none⟩ hB hne).trans h.2.1, (frozen_far hg B 0 hB hne).trans h.2.2.1, (frozen_far hg B 1 hB hne).trans h.2.2.2⟩
theorem grown_set (w : World) (b o : Nat) (v : Value) : w.grownBy (w.setCell ⟨b, o, none⟩ v) (some b) :=
  ⟨rfl, rfl, rfl, by simp [World.setCell], fun q _ hq => Below.heap_setCell _ _ _ _ (fun e => hq (by simp [e]))⟩

/-- What the walk holds of older blocks: the result's variable, the batch's. -/
structure Olds (B bb seq : Nat) (v : Value) (w : World) : Prop where
  rv : RV B w
  c0 : w.cell? ⟨bb, 0, none⟩ = some (.int .u64 seq)
  c1 : w.cell? ⟨bb, 1, none⟩ = some v
  fz : w.frozen? ⟨bb, 1, none⟩ = false
theorem Olds.far {B bb seq : Nat} {v : Value} {w w' : World} {row : Option Nat} (h : Olds B bb seq v w) (hg : w.grownBy w' row) (hB : B < w.heap.size) (hb : bb < w.heap.size) (hn1 : some B ≠ row) (hn2 : some bb ≠ row) : Olds B bb seq v w' :=
  ⟨h.rv.far hg hB hn1, (hg.cell_far ⟨bb, 0, none⟩ hb hn2).trans h.c0, (hg.cell_far ⟨bb, 1, none⟩ hb hn2).trans h.c1, (frozen_far hg bb 1 hb hn2).trans h.fz⟩
theorem Olds.below {B bb seq : Nat} {v : Value} {w w' : World} (h : Olds B bb seq v w) (hg : Below w.heap.size w w') (hB : B < w.heap.size) (hb : bb < w.heap.size) : Olds B bb seq v w' :=
  ⟨h.rv.below hg hB, (hg.cell (p := ⟨bb, 0, none⟩) hb).trans h.c0, (hg.cell (p := ⟨bb, 1, none⟩) hb).trans h.c1, (hg.frozen (p := ⟨bb, 1, none⟩) hb).trans h.fz⟩
/-- A new slice is laid into the batch. -/
theorem Olds.put {B bb seq : Nat} {v v' : Value} {w : World} (h : Olds B bb seq v w) (hne : B ≠ bb) (hB : B < w.heap.size) (hb : bb < w.heap.size) : Olds B bb seq v' (w.setCell ⟨bb, 1, none⟩ v') := by
  have hg := grown_set w bb 1 v'
  refine ⟨h.rv.far hg hB (by simp [hne]), ?_, World.cell?_setCell_same' w _ _ (by rw [h.c1]; rfl), ?_⟩
  · exact (World.cell?_setCell_other w ⟨bb, 1, none⟩ ⟨bb, 0, none⟩ v' (by simp)).trans h.c0
  · have e : (w.setCell ⟨bb, 1, none⟩ v').frozen? ⟨bb, 1, none⟩ = w.frozen? ⟨bb, 1, none⟩ := by simp
    exact e.trans h.fz

/-- What a block of an operation that was made just now holds, behind a call. -/
theorem op_block {w w3 : World} {x y z : Value} {t : TypeId} (hb : Below (w.alloc (.cells #[x, y, z] t)).heap.size (w.alloc (.cells #[x, y, z] t)) w3) :
    w3.cell? ⟨w.heap.size, 0, none⟩ = some x ∧ w3.cell? ⟨w.heap.size, 1, none⟩ = some y ∧ w3.cell? ⟨w.heap.size, 2, none⟩ = some z ∧ w3.frozen? ⟨w.heap.size, 0, none⟩ = false ∧ w3.frozen? ⟨w.heap.size, 1, none⟩ = false ∧ w3.frozen? ⟨w.heap.size, 2, none⟩ = false := by
  have h := heap_alloc_new w (.cells #[x, y, z] t)
  refine ⟨(hb.cell (p := ⟨w.heap.size, 0, none⟩) (by simp)).trans ?_, (hb.cell (p := ⟨w.heap.size, 1, none⟩) (by simp)).trans ?_, (hb.cell (p := ⟨w.heap.size, 2, none⟩) (by simp)).trans ?_,
    (hb.frozen (p := ⟨w.heap.size, 0, none⟩) (by simp)).trans (Lib.frozen_of_heap h 0), (hb.frozen (p := ⟨w.heap.size, 1, none⟩) (by simp)).trans (Lib.frozen_of_heap h 1), (hb.frozen (p := ⟨w.heap.size, 2, none⟩) (by simp)).trans (Lib.frozen_of_heap h 2)⟩
  · rw [World.cell?_alloc_new]; rfl
  · rw [World.cell?_alloc_new]; rfl
  · rw [World.cell?_alloc_new]; rfl

set_option maxHeartbeats 2000000 in
theorem refDecode_none (s : ByteArray) (w : World) (hs : s.size ≤ 1000000) (hv : Nm.rv s.data.toList = none) :
    Calls Try.prog 21 #[.string s] w (DecRead none w) := by
  have HV : Hid (rvV s.data.toList = .tuple #[.int .u64 0, .int .i64 0, .bool false]) := Lib.hid (rvV_none hv)
  have HS := Lib.hid hs
  clear hv hs
  go_enter Try.func21, Try.ntmps21
  go_wp2_with fail
  refine (refReadVar_any _ _ (by have := HS.out; omega)).mono ?_
  rintro e w1 ⟨rfl, hb1⟩
  rw [HV.out]
  have hz : w.heap.size < w1.heap.size := by have := hb1.size; simp at this; omega
  obtain ⟨r0, r1, r2, r3⟩ := (RV.new w).below hb1 (by simp)
  have HB := Lib.hid (Below.next ((Below.refl _ _).alloc (Nat.le_refl _) _) hb1)
  clear hb1
  go_wp2_with fail
  refine bodyPost_ret (v := noBat) (by simp [results, Try.results21, go_sem, noBat, batV, r0, r1]) rfl ⟨?_, Or.inl ⟨rfl, rfl⟩⟩
  exact (HB.out.setCell (Nat.le_refl _) _).setCell (Nat.le_refl _) _

set_option maxRecDepth 100000 in
set_option maxHeartbeats 8000000 in
theorem refDecode_loop (s : ByteArray) (seq a n c : Nat) (w : World) (hs : s.size ≤ 1000000) (hv : Nm.rv s.data.toList = some (seq, a)) (hv2 : Nm.rv (s.data.toList.drop a) = some (n, c)) (h16 : ¬ 16 < n) :
    Calls Try.prog 21 #[.string s] w (DecRead (Bt.declR s.data.toList) w) := by
  obtain ⟨i0, hi, hz0, hz1, hz2'⟩ := info_parts info_op
  have HV : Hid (rvV s.data.toList = .tuple #[.int .u64 seq, .int .i64 a, .bool true]) := Lib.hid (rvV_some hv)
  have HV2 : Hid (rvV (s.data.toList.drop a) = .tuple #[.int .u64 n, .int .i64 c, .bool true]) := Lib.hid (rvV_some hv2)
  obtain ⟨ha1, ha2, _, hseq⟩ := Nm.row_rv hv
  obtain ⟨hc1, hc2, _, _⟩ := Nm.row_rv hv2
  rw [length_list] at ha2
  rw [List.length_drop, length_list] at hc2
  have HS := Lib.hid hs
  have HR : Hid (Bt.declR s.data.toList = match contR [] (a + c) (Bt.many Bt.rr (n - 0) (s.data.toList.drop (a + c))) with
      | none => none
      | some (os, _) => if Bt.chk seq os = 0 ∧ Bt.encl seq os = s.data.toList then some (seq, os) else none) := by
    refine Lib.hid ?_
    unfold Bt.declR Bt.rdl
    rw [hv]
    simp only
    rw [hv2]
    simp only
    rw [if_neg h16]
    cases Bt.many Bt.rr n (s.data.toList.drop (a + c)) with
    | none => rfl
    | some x => rfl
  have hai : (a : Int) ≤ s.size := by omega
  have haci : (a : Int) + c ≤ s.size := by omega
  have h16i : ¬ (16 : Int) < n := by omega
  clear hv hv2 ha1
  generalize Bt.declR s.data.toList = D at *
  go_enter Try.func21, Try.ntmps21
  go_wp2_with fail
  refine (refReadVar_any _ _ (by have := HS.out; omega)).mono ?_
  rintro e w1 ⟨rfl, hb1⟩
  rw [HV.out]
  go_wp2_with fail
  refine (refReadVar_any _ _ (by have := HS.out; rw [ByteArray.size_extract]; omega)).mono ?_
  rintro e w2 ⟨rfl, hb2⟩
  rw [Lib.extract_to_end, HV2.out]
  have hzz1 : w.heap.size < w1.heap.size := by have := hb1.size; simp at this; omega
  have hzz2 : w.heap.size < w2.heap.size := by have := hb2.size; omega
  have hrv := ((RV.new w).below hb1 (by simp)).below hb2 hzz1
  have HB2 := Lib.hid (Below.next (Below.next ((Below.refl _ _).alloc (Nat.le_refl _) _) hb1) hb2)
  clear hb1 hb2
  go_wp2_with fail
  have hbb := heap_alloc_new w2 (.cells #[.int .u64 seq, .slice none 0 0] 43)
  have HB3 : Hid (Below w.heap.size w (w2.alloc (.cells #[.int .u64 seq, .slice none 0 0] 43))) := Lib.hid (Below.next_alloc HB2.out _)
  have hrv3 : RV w.heap.size (w2.alloc (.cells #[.int .u64 seq, .slice none 0 0] 43)) := hrv.below ((Below.refl _ _).alloc (Nat.le_refl _) _) hzz2
  have HRV3 := Lib.hid hrv3
  have hsz3 : w2.heap.size < (w2.alloc (.cells #[.int .u64 seq, .slice none 0 0] 43)).heap.size := by simp
  have hown3 : OwnsO (w2.alloc (.cells #[.int .u64 seq, .slice none 0 0] 43)) (w2.heap.size + 1) (.slice none 0 0) [] := OwnsO.nil _ _
  have hq0 := Lib.cell_of_heap hbb 0
  have hq1 := Lib.cell_of_heap hbb 1
  have hqf := Lib.frozen_of_heap hbb 1
  generalize w2.alloc (.cells #[.int .u64 seq, .slice none 0 0] 43) = W at *
  clear hrv hrv3 hbb
  go_loopw [5, 10] (fun x i wr => ∃ (k z : Nat) (v : Value) (os : List Ob), k ≤ n ∧ i = .int .u64 k ∧ x = .int .i64 z ∧ z ≤ s.size ∧ os.length = k ∧
      D = (match contR os z (Bt.many Bt.rr (n - k) (s.data.toList.drop z)) with | none => none | some (os, _) => if Bt.chk seq os = 0 ∧ Bt.encl seq os = s.data.toList then some (seq, os) else none) ∧
      OwnsO wr (w2.heap.size + 1) v os ∧ wr.cell? ⟨w2.heap.size, 0, none⟩ = some (.int .u64 seq) ∧ wr.cell? ⟨w2.heap.size, 1, none⟩ = some v ∧ wr.frozen? ⟨w2.heap.size, 1, none⟩ = false ∧ RV w.heap.size wr ∧ Below w.heap.size w wr ∧ w2.heap.size < wr.heap.size) (fun _ i _ => n - (intOf i).toNat)
  case atStart => exact ⟨0, a + c, _, [], Nat.zero_le _, rfl, rfl, by omega, rfl, HR.out, hown3, hq0, hq1, hqf, HRV3.out, HB3.out, hsz3⟩
  case round =>
    obtain ⟨k, z, v, os, hk, rfl, rfl, hzs, hol, hD, hown, hc0, hc1, hcf, hrv, hbel, hszr⟩ := hrel
    have HD := Lib.hid hD
    clear hD HR hq0 hq1 hqf HRV3 HB3 hsz3 hown3
    obtain ⟨r0, r1, r2, r3⟩ := id hrv
    have HRV := Lib.hid hrv
    clear hrv
    by_cases hlt : k < n
    · obtain ⟨j, hj⟩ : ∃ j, n - k = j + 1 := ⟨n - k - 1, by omega⟩
      have HJ : Hid (n - (k + 1) = j) := Lib.hid (by omega)
      rw [hj] at HD
      clear hj
      have hzi : (z : Int) ≤ s.size := by omega
      by_cases hend : z = s.size
      · have HN : Hid (D = none) := by
          rw [HD.out, contR_none _ _ _ _ (by rw [List.drop_of_length_le (by rw [length_list]; omega)]; rfl)]; exact Lib.hid rfl
        have hzi2 : (s.size : Int) ≤ z := by omega
        clear hend
        go_wp2_with fail
        refine bodyPost_ret (v := noBat) (by simp [results, Try.results21, go_sem, noBat, batV, r0, r1]) rfl ⟨?_, Or.inl ⟨HN.out, rfl⟩⟩
        exact (hbel.setCell (Nat.le_refl _) _).setCell (Nat.le_refl _) _
      · have hz1' : z < s.size := by omega
        have hx := index_byte s z hz1'
        have hdz : s.data.toList.drop z = s[z] :: s.data.toList.drop (z + 1) := List.drop_eq_getElem_cons (by rw [length_list]; exact hz1')
        have HT1 : Hid (∀ W, Calls Try.prog 36 #[.string (s.extract (z + 1) s.size), .int .i64 64] W (Gives (rtV (s.data.toList.drop (z + 1)) 64) W)) := Lib.hid (fun W => by
          have h := refReadText_any (s.extract (z + 1) s.size) 64 W (by rw [ByteArray.size_extract]; omega)
          rw [Lib.extract_to_end] at h
          exact h)
        have hzl : (z : Int) < s.size := by omega
        have hzi1 : (z : Int) + 1 ≤ s.size := by omega
        generalize s[z] = y at *
        have HRR : Hid (Bt.rr (s.data.toList.drop z) = match rt (s.data.toList.drop (z + 1)) 64 with
            | none => none
            | some (k, n) => if y = 1 then some (⟨⟨k.toArray⟩, ByteArray.empty, true⟩, 1 + n)
              else match rt (s.data.toList.drop (z + 1 + n)) 512 with
                | none => none
                | some (v, m) => some (⟨⟨k.toArray⟩, ⟨v.toArray⟩, false⟩, 1 + n + m)) := by
          rw [hdz, Bt.rr_cons]
          refine Lib.hid ?_
          cases rt (s.data.toList.drop (z + 1)) 64 with
          | none => rfl
          | some x => simp only [List.drop_drop]; rfl
        clear hdz
        have hwz : w.heap.size < wr.heap.size := by omega
        have hw2lt : w.heap.size < w2.heap.size := hzz2
        have hne1 : ¬ w.heap.size = wr.heap.size := by omega
        have hne2 : ¬ w2.heap.size = wr.heap.size := by omega
        cases h64 : rt (s.data.toList.drop (z + 1)) 64 with
        | none =>
          have HN : Hid (D = none) := by
            rw [HD.out, contR_none _ _ _ _ (by rw [HRR.out, h64])]; exact Lib.hid rfl
          have HV1 : Hid (rtV (s.data.toList.drop (z + 1)) 64 = noText) := Lib.hid (by unfold rtV; rw [h64])
          clear h64
          go_wp2_with fail
          refine (HT1.out _).mono ?_
          rintro e w3 ⟨rfl, hb3⟩
          rw [HV1.out]
          unfold noText
          obtain ⟨p0, p1, p2, p3, p4, p5⟩ := op_block hb3
          obtain ⟨t0, t1, t2, t3⟩ := (HRV.out.below ((Below.refl _ _).alloc (Nat.le_refl _) _) hwz).below hb3 (by simp; omega)
          have HB4 := Lib.hid (Below.next (Below.next_alloc hbel _) hb3)
          have hz3 : wr.heap.size < w3.heap.size := by have := hb3.size; simp at this; omega
          clear hb3 r0 r1 r2 r3
          go_wp2_with fail
          refine bodyPost_ret (v := noBat) (by simp [results, Try.results21, go_sem, noBat, batV, t0, t1, hne1, Ne.symm hne1]) rfl ⟨?_, Or.inl ⟨HN.out, rfl⟩⟩
          exact ((HB4.out.setCell (p := ⟨wr.heap.size, 0, none⟩) (Nat.le_of_lt hwz) _).setCell (Nat.le_refl _) _).setCell (Nat.le_refl _) _
        | some x =>
          obtain ⟨t, k1⟩ := x
          have hk1 := (Bt.txt_rt h64).2.1
          rw [List.length_drop, length_list] at hk1
          have HV1 : Hid (rtV (s.data.toList.drop (z + 1)) 64 = .tuple #[.string ⟨t.toArray⟩, .int .i64 k1, .bool true]) := Lib.hid (by unfold rtV; rw [h64])
          have hki1 : (z : Int) + 1 + k1 ≤ s.size := by omega
          by_cases hy : y = 1
          · have HN : Hid (D = (match contR (os ++ [⟨⟨t.toArray⟩, ByteArray.empty, true⟩]) (z + (1 + k1)) (Bt.many Bt.rr j (s.data.toList.drop (z + (1 + k1)))) with | none => none | some (os, _) => if Bt.chk seq os = 0 ∧ Bt.encl seq os = s.data.toList then some (seq, os) else none)) := by
              rw [HD.out, contR_some _ _ _ _ _ _ (by rw [HRR.out, h64]; simp only; rw [if_pos hy])]; exact Lib.hid rfl
            have hx1 : ∀ w : World, (Instr.index 9 (.string s) (.int .i64 z)).run Try.prog w = .ok (.int .u8 1) w := by subst hy; exact hx
            clear hx hy h64 HRR
            go_wp2_with fail
            refine (HT1.out _).mono ?_
            rintro e w3 ⟨rfl, hb3⟩
            rw [HV1.out]
            obtain ⟨p0, p1, p2, p3, p4, p5⟩ := op_block hb3
            have HRV3 := Lib.hid ((HRV.out.below ((Below.refl _ _).alloc (Nat.le_refl _) _) hwz).below hb3 (by simp; omega))
            have HB4 := Lib.hid (Below.next (Below.next_alloc hbel _) hb3)
            have hz3 : wr.heap.size < w3.heap.size := by have := hb3.size; simp at this; omega
            have hWW : Below wr.heap.size wr w3 := Below.next ((Below.refl _ _).alloc (Nat.le_refl _) _) hb3
            have s0 := (hWW.cell (p := ⟨w2.heap.size, 0, none⟩) hszr).trans hc0
            have s1 := (hWW.cell (p := ⟨w2.heap.size, 1, none⟩) hszr).trans hc1
            have sf := (hWW.frozen (p := ⟨w2.heap.size, 1, none⟩) hszr).trans hcf
            have hraw3 : w3.ownsRow (w2.heap.size + 1) 24 3 v os.length (os.flatMap cellsO) := ownsRow_below hown hWW
            have hvb : v.ownBlock ≠ some wr.heap.size := fun e => by have := (World.ownsRow.lt hown _ e).2; omega
            have hvc : v.ownBlock ≠ some w2.heap.size := fun e => by have := (World.ownsRow.lt hown _ e).1; omega
            have hraw4 : (w3.setCell ⟨wr.heap.size, 0, none⟩ (.string ⟨t.toArray⟩)).ownsRow (w2.heap.size + 1) 24 3 v os.length (os.flatMap cellsO) :=
              hraw3.kept (row := some wr.heap.size) ⟨rfl, rfl, rfl, by simp [World.setCell], fun q _ hq => Below.heap_setCell _ _ _ _ (fun e => hq (by simp [e]))⟩ (Or.inr hvb)
            have hva : v.ownBlock ≠ some w.heap.size := fun e => by have := (World.ownsRow.lt hown _ e).1; omega
            have hvlo : ∀ q, v.ownBlock = some q → w.heap.size ≤ q := fun q hq => by have := (World.ownsRow.lt hown _ hq).1; omega
            have HOL : Hid (os.length ≤ 16) := Lib.hid (by omega)
            clear hb3 r0 r1 r2 r3 hown hraw3 hWW
            go_wp2_with (at_builtin; go_must (refine wpList_append_own _ rfl _ _ 22 rfl (w2.heap.size + 1) 24 i0 _ 3 40 Try.underlying22 hi hz0 hz1 hz2' rfl (by decide) _ _ _ rfl (hraw4.alloc _) ⟨w3.heap.size, 0, none⟩ 1 1 [_, _, _] rfl rfl (World.news_of_block (cs := #[_, _, _]) (fr := (0, 0)) (heap_at _ _ (by simp))) ?c2 ?c3 ?c4 ?c5 ?_))
            case c2 => intro u hu; simp at hu; rcases hu with hu | hu | hu <;> subst hu <;> rfl
            case c3 => have := HOL.out; unfold maxLen; omega
            case c4 => have := HOL.out; omega
            case c5 => simp; omega
            intro v2 w5 hown5 hgrow5 _
            have hO3 : Olds w.heap.size w2.heap.size seq v w3 := ⟨HRV3.out, s0, s1, sf⟩
            have hO4 := hO3.far (grown_set w3 wr.heap.size 0 (.string ⟨t.toArray⟩)) (by omega) (by omega) (by simp; omega) (by simp; omega)
            have hO5 := ((hO4.below ((Below.refl _ _).alloc (Nat.le_refl _) _) (by simp; omega) (by simp; omega)).far hgrow5 (by simp; omega) (by simp; omega) (Ne.symm hva) (Ne.symm hvc))
            have hBX : Below w.heap.size w w5 := (((HB4.out.setCell (p := ⟨wr.heap.size, 0, none⟩) (Nat.le_of_lt hwz) (.string ⟨t.toArray⟩)).alloc (by simp; omega) _).grown hgrow5 (by simp; omega) (fun q hq => hvlo q hq))
            have hz5 : w3.heap.size + 1 ≤ w5.heap.size := by have := hgrow5.size; simp at this; omega
            have u1 := hO5.c1
            have uf := hO5.fz
            have HOU := Lib.hid hO5
            have HBX := Lib.hid hBX
            have HOW : Hid (OwnsO w5 (w2.heap.size + 1) v2 (os ++ [⟨⟨t.toArray⟩, ByteArray.empty, true⟩])) := Lib.hid (OwnsO.snoc (p := ⟨⟨t.toArray⟩, ByteArray.empty, true⟩) (by rw [hol]; exact hown5))
            have HPUT : Hid (∀ v', Olds w.heap.size w2.heap.size seq v' (w5.setCell ⟨w2.heap.size, 1, none⟩ v')) := Lib.hid (fun v' => hO5.put (by omega) (by omega) (by omega))
            obtain ⟨a2, c2, hv2⟩ := HOW.out.slice
            have hl2 : (os ++ [(⟨⟨t.toArray⟩, ByteArray.empty, true⟩ : Ob)]).length = k + 1 := by simp [hol]
            rw [hl2] at hv2
            subst hv2
            generalize hos2 : os ++ [(⟨⟨t.toArray⟩, ByteArray.empty, true⟩ : Ob)] = os2 at *
            generalize hZ : z + (1 + k1) = Z at *
            have hZi : (z : Int) + 1 + k1 = (Z : Int) := by omega
            have hZs : Z ≤ s.size := by omega
            generalize (⟨t.toArray⟩ : ByteArray) = TK at *
            clear hos2
            clear hown5 hgrow5 hO3 hO4 hO5 hBX hraw4 p0 p1 p2 p3 p4 p5 s0 s1 sf
            go_wp2_with fail
            go_roundw
            case rel => exact ⟨k + 1, Z, _, _, by omega, by go_num, by rw [hZi], hZs, hl2, by rw [HJ.out]; exact HN.out, owns_set HOW.out _ _ _ (Nat.lt_succ_self _), (HPUT.out _).c0, (HPUT.out _).c1, (HPUT.out _).fz, (HPUT.out _).rv, HBX.out.setCell (p := ⟨w2.heap.size, 1, none⟩) (Nat.le_of_lt hw2lt) _, by simp; omega⟩
            case measure => simp [intOf]; omega
          · have hyn : ((y.toNat : Int) == 1) = false := by
              rw [beq_eq_false_iff_ne]
              intro e
              exact hy (UInt8.toNat.inj (by show y.toNat = 1; omega))
            have HRR2 : Hid (Bt.rr (s.data.toList.drop z) = match rt (s.data.toList.drop (z + 1 + k1)) 512 with
                | none => none
                | some (v, m) => some (⟨⟨t.toArray⟩, ⟨v.toArray⟩, false⟩, 1 + k1 + m)) := by
              rw [HRR.out, h64]; simp only; rw [if_neg hy]; exact Lib.hid rfl
            have HT2 : Hid (∀ W, Calls Try.prog 36 #[.string (s.extract (z + 1 + k1) s.size), .int .i64 512] W (Gives (rtV (s.data.toList.drop (z + 1 + k1)) 512) W)) := Lib.hid (fun W => by
              have h := refReadText_any (s.extract (z + 1 + k1) s.size) 512 W (by rw [ByteArray.size_extract]; omega)
              rw [Lib.extract_to_end] at h
              exact h)
            generalize ((y.toNat : Int)) = Y at *
            clear h64 HRR hy
            go_wp2_with fail
            refine (HT1.out _).mono ?_
            rintro e w3 ⟨rfl, hb3⟩
            rw [HV1.out]
            obtain ⟨p0, p1, p2, p3, p4, p5⟩ := op_block hb3
            have HRV3 := Lib.hid ((HRV.out.below ((Below.refl _ _).alloc (Nat.le_refl _) _) hwz).below hb3 (by simp; omega))
            have HB4 := Lib.hid (Below.next (Below.next_alloc hbel _) hb3)
            have hz3 : wr.heap.size < w3.heap.size := by have := hb3.size; simp at this; omega
            have hWW : Below wr.heap.size wr w3 := Below.next ((Below.refl _ _).alloc (Nat.le_refl _) _) hb3
            have s0 := (hWW.cell (p := ⟨w2.heap.size, 0, none⟩) hszr).trans hc0
            have s1 := (hWW.cell (p := ⟨w2.heap.size, 1, none⟩) hszr).trans hc1
            have sf := (hWW.frozen (p := ⟨w2.heap.size, 1, none⟩) hszr).trans hcf
            have hO3 : Olds w.heap.size w2.heap.size seq v w3 := ⟨HRV3.out, s0, s1, sf⟩
            have hO4 := hO3.far (grown_set w3 wr.heap.size 0 (.string ⟨t.toArray⟩)) (by omega) (by omega) (by simp; omega) (by simp; omega)
            have hraw3 : w3.ownsRow (w2.heap.size + 1) 24 3 v os.length (os.flatMap cellsO) := ownsRow_below hown hWW
            have hvb : v.ownBlock ≠ some wr.heap.size := fun e => by have := (World.ownsRow.lt hown _ e).2; omega
            have hvc : v.ownBlock ≠ some w2.heap.size := fun e => by have := (World.ownsRow.lt hown _ e).1; omega
            have hva : v.ownBlock ≠ some w.heap.size := fun e => by have := (World.ownsRow.lt hown _ e).1; omega
            have hvlo : ∀ q, v.ownBlock = some q → w.heap.size ≤ q := fun q hq => by have := (World.ownsRow.lt hown _ hq).1; omega
            have hraw4 : (w3.setCell ⟨wr.heap.size, 0, none⟩ (.string ⟨t.toArray⟩)).ownsRow (w2.heap.size + 1) 24 3 v os.length (os.flatMap cellsO) :=
              hraw3.kept (row := some wr.heap.size) (grown_set _ _ _ _) (Or.inr hvb)
            have HBX3 : Hid (Below w.heap.size w (w3.setCell ⟨wr.heap.size, 0, none⟩ (.string ⟨t.toArray⟩))) := Lib.hid (HB4.out.setCell (p := ⟨wr.heap.size, 0, none⟩) (Nat.le_of_lt hwz) _)
            have HO4 := Lib.hid hO4
            have HR4 := Lib.hid hraw4
            have HQ0 : Hid ((w3.setCell ⟨wr.heap.size, 0, none⟩ (.string ⟨t.toArray⟩)).cell? ⟨wr.heap.size, 0, none⟩ = some (.string ⟨t.toArray⟩)) := Lib.hid (World.cell?_setCell_same' w3 _ _ (by rw [p0]; rfl))
            have HQ1 : Hid ((w3.setCell ⟨wr.heap.size, 0, none⟩ (.string ⟨t.toArray⟩)).cell? ⟨wr.heap.size, 1, none⟩ = some (.string ⟨#[]⟩)) := Lib.hid ((World.cell?_setCell_other w3 ⟨wr.heap.size, 0, none⟩ ⟨wr.heap.size, 1, none⟩ _ (by simp)).trans p1)
            have HQ2 : Hid ((w3.setCell ⟨wr.heap.size, 0, none⟩ (.string ⟨t.toArray⟩)).cell? ⟨wr.heap.size, 2, none⟩ = some (.bool false)) := Lib.hid ((World.cell?_setCell_other w3 ⟨wr.heap.size, 0, none⟩ ⟨wr.heap.size, 2, none⟩ _ (by simp)).trans (by first | exact p2 | (rw [hyn] at p2; exact p2)))
            have HQ4 : Hid ((w3.setCell ⟨wr.heap.size, 0, none⟩ (.string ⟨t.toArray⟩)).frozen? ⟨wr.heap.size, 1, none⟩ = false) := Lib.hid ((World.frozen?_setCell w3 ⟨wr.heap.size, 0, none⟩ ⟨wr.heap.size, 1, none⟩ _).trans p4)
            clear hb3 r0 r1 r2 r3 hown hraw3 hWW hO3 hO4 hraw4 s0 s1 sf
            go_wp2_with fail
            refine (HT2.out _).mono ?_
            rintro e w4 ⟨rfl, hb4⟩
            have hsx : (w3.setCell ⟨wr.heap.size, 0, none⟩ (.string ⟨t.toArray⟩)).heap.size = w3.heap.size := by simp
            have hz4 : w3.heap.size ≤ w4.heap.size := by have := hb4.size; rw [hsx] at this; exact this
            have g0 := (hb4.cell (p := ⟨wr.heap.size, 0, none⟩) (by rw [hsx]; exact hz3)).trans HQ0.out
            have g1 := (hb4.cell (p := ⟨wr.heap.size, 1, none⟩) (by rw [hsx]; exact hz3)).trans HQ1.out
            have g2 := (hb4.cell (p := ⟨wr.heap.size, 2, none⟩) (by rw [hsx]; exact hz3)).trans HQ2.out
            have g4 := (hb4.frozen (p := ⟨wr.heap.size, 1, none⟩) (by rw [hsx]; exact hz3)).trans HQ4.out
            have HBX4 : Hid (Below w.heap.size w w4) := Lib.hid (Below.next HBX3.out hb4)
            have hO5 := HO4.out.below hb4 (by rw [hsx]; omega) (by rw [hsx]; omega)
            have HR5 := Lib.hid (ownsRow_below HR4.out hb4)
            have HO5 := Lib.hid hO5
            clear hb4 hsx p0 p1 p2 p3 p4 p5
            cases h512 : rt (s.data.toList.drop (z + 1 + k1)) 512 with
            | none =>
              have HN : Hid (D = none) := by
                rw [HD.out, contR_none _ _ _ _ (by rw [HRR2.out, h512])]; exact Lib.hid rfl
              have HV2 : Hid (rtV (s.data.toList.drop (z + 1 + k1)) 512 = noText) := Lib.hid (by unfold rtV; rw [h512])
              rw [HV2.out]
              unfold noText
              obtain ⟨t0, t1, t2, t3⟩ := hO5.rv
              clear h512 hO5
              go_wp2_with fail
              refine bodyPost_ret (v := noBat) (by simp [results, Try.results21, go_sem, noBat, batV, t0, t1, hne1, Ne.symm hne1]) rfl ⟨?_, Or.inl ⟨HN.out, rfl⟩⟩
              exact ((HBX4.out.setCell (p := ⟨wr.heap.size, 1, none⟩) (Nat.le_of_lt hwz) _).setCell (Nat.le_refl _) _).setCell (Nat.le_refl _) _
            | some x2 =>
              obtain ⟨u, m⟩ := x2
              have hm1 := (Bt.txt_rt h512).2.1
              rw [List.length_drop, length_list] at hm1
              have HV2 : Hid (rtV (s.data.toList.drop (z + 1 + k1)) 512 = .tuple #[.string ⟨u.toArray⟩, .int .i64 m, .bool true]) := Lib.hid (by unfold rtV; rw [h512])
              rw [HV2.out]
              have hmi : (z : Int) + 1 + k1 + m ≤ s.size := by omega
              have HN : Hid (D = (match contR (os ++ [⟨⟨t.toArray⟩, ⟨u.toArray⟩, false⟩]) (z + (1 + k1 + m)) (Bt.many Bt.rr j (s.data.toList.drop (z + (1 + k1 + m)))) with | none => none | some (os, _) => if Bt.chk seq os = 0 ∧ Bt.encl seq os = s.data.toList then some (seq, os) else none)) := by
                rw [HD.out, contR_some _ _ _ _ _ _ (by rw [HRR2.out, h512])]; exact Lib.hid rfl
              have hraw6 : (w4.setCell ⟨wr.heap.size, 1, none⟩ (.string ⟨u.toArray⟩)).ownsRow (w2.heap.size + 1) 24 3 v os.length (os.flatMap cellsO) := HR5.out.kept (row := some wr.heap.size) (grown_set _ _ _ _) (Or.inr hvb)
              have hO6 := hO5.far (grown_set w4 wr.heap.size 1 (.string ⟨u.toArray⟩)) (by omega) (by omega) (by simp; omega) (by simp; omega)
              have HOL : Hid (os.length ≤ 16) := Lib.hid (by omega)
              have s1 := hO5.c1
              clear h512 hO5 HV2 HRR2
              go_wp2_with (at_builtin; go_must (refine wpList_append_own _ rfl _ _ 22 rfl (w2.heap.size + 1) 24 i0 _ 3 40 Try.underlying22 hi hz0 hz1 hz2' rfl (by decide) _ _ _ rfl (hraw6.alloc _) ⟨w4.heap.size, 0, none⟩ 1 1 [_, _, _] rfl rfl (World.news_of_block (cs := #[_, _, _]) (fr := (0, 0)) (heap_at _ _ (by simp))) ?c2 ?c3 ?c4 ?c5 ?_))
              case c2 => intro u hu; simp at hu; rcases hu with hu | hu | hu <;> subst hu <;> rfl
              case c3 => have := HOL.out; unfold maxLen; omega
              case c4 => have := HOL.out; omega
              case c5 => simp; omega
              intro v2 w5 hown5 hgrow5 _
              have hO7 := ((hO6.below ((Below.refl _ _).alloc (Nat.le_refl _) _) (by simp; omega) (by simp; omega)).far hgrow5 (by simp; omega) (by simp; omega) (Ne.symm hva) (Ne.symm hvc))
              have hBX : Below w.heap.size w w5 := (((HBX4.out.setCell (p := ⟨wr.heap.size, 1, none⟩) (Nat.le_of_lt hwz) (.string ⟨u.toArray⟩)).alloc (by simp; omega) _).grown hgrow5 (by simp; omega) (fun q hq => hvlo q hq))
              have hz5 : w4.heap.size + 1 ≤ w5.heap.size := by have := hgrow5.size; simp at this; omega
              have u1 := hO7.c1
              have uf := hO7.fz
              have HBX := Lib.hid hBX
              have HOW : Hid (OwnsO w5 (w2.heap.size + 1) v2 (os ++ [⟨⟨t.toArray⟩, ⟨u.toArray⟩, false⟩])) := Lib.hid (OwnsO.snoc (p := ⟨⟨t.toArray⟩, ⟨u.toArray⟩, false⟩) (by rw [hol]; exact hown5))
              have HPUT : Hid (∀ v', Olds w.heap.size w2.heap.size seq v' (w5.setCell ⟨w2.heap.size, 1, none⟩ v')) := Lib.hid (fun v' => hO7.put (by omega) (by omega) (by omega))
              obtain ⟨a2, c2, hv2⟩ := HOW.out.slice
              have hl2 : (os ++ [(⟨⟨t.toArray⟩, ⟨u.toArray⟩, false⟩ : Ob)]).length = k + 1 := by simp [hol]
              rw [hl2] at hv2
              subst hv2
              generalize hos2 : os ++ [(⟨⟨t.toArray⟩, ⟨u.toArray⟩, false⟩ : Ob)] = os2 at *
              generalize hZ : z + (1 + k1 + m) = Z at *
              have hZi : (z : Int) + 1 + k1 + m = (Z : Int) := by omega
              have hZs : Z ≤ s.size := by omega
              clear hos2
              clear hown5 hgrow5 hO6 hO7 hBX hraw6 g0 g1 g2 g4 s1
              go_wp2_with fail
              go_roundw
              case rel => exact ⟨k + 1, Z, _, _, by omega, by go_num, by rw [hZi], hZs, hl2, by rw [HJ.out]; exact HN.out, owns_set HOW.out _ _ _ (Nat.lt_succ_self _), (HPUT.out _).c0, (HPUT.out _).c1, (HPUT.out _).fz, (HPUT.out _).rv, HBX.out.setCell (p := ⟨w2.heap.size, 1, none⟩) (Nat.le_of_lt hw2lt) _, by simp; omega⟩
              case measure => simp [intOf]; omega
    · obtain rfl : k = n := by omega
      have HN : Hid (D = if Bt.chk seq os = 0 ∧ Bt.encl seq os = s.data.toList then some (seq, os) else none) := by
        rw [HD.out, Nat.sub_self, contR_end]; exact Lib.hid rfl
      obtain ⟨ao, cap, hv⟩ := hown.slice
      rw [hol] at hv
      subst hv
      have HOO := Lib.hid hown
      have hsee := hown.sees
      have HOL := Lib.hid (⟨HRV.out, hc0, hc1, hcf⟩ : Olds w.heap.size w2.heap.size seq (.slice ao k cap) wr)
      have hwz : w.heap.size < wr.heap.size := by omega
      have hw2lt : w.heap.size < w2.heap.size := hzz2
      by_cases hck : Bt.chk seq os = 0
      · obtain ⟨A, hA⟩ : ∃ A : ByteArray, A.data.toList = Bt.encl seq os := ⟨⟨(Bt.encl seq os).toArray⟩, rfl⟩
        have HE : Hid (Calls Try.prog 17 #[.agg #[.int .u64 seq, .slice ao k cap]] wr (fun x W' => x = .returned (.tuple #[.string A, .int .i64 0]) ∧ Below wr.heap.size wr W')) := by
          have h := refEncode_yes seq ao k cap os wr hsee hseq hck
          unfold Told at h
          rw [mk_of hA.symm] at h
          exact Lib.hid h
        by_cases heq : Bt.encl seq os = s.data.toList
        · have hAs : (A.toList == s.toList) = true := by
            have : A = s := ByteArray.ext (Array.toList_inj.1 (hA.trans heq))
            rw [this]; simp
          have HN2 : Hid (D = some (seq, os)) := by rw [HN.out, if_pos ⟨hck, heq⟩]; exact Lib.hid rfl
          clear hA heq hsee hown hck HN HD r0 r1 r2 r3
          go_wp2_with fail
          refine HE.out.mono ?_
          rintro e w4 ⟨rfl, hb4⟩
          have hO4 := HOL.out.below hb4 (by omega) (by omega)
          obtain ⟨t0, t1, t2, t3⟩ := hO4.rv
          have v0 := hO4.c0
          have v1 := hO4.c1
          have HB4 := Lib.hid (Below.next hbel hb4)
          have HO4 := Lib.hid (ownsRow_below HOO.out hb4)
          clear hb4 hO4 hc0 hc1 hcf
          go_wp2_with fail
          refine bodyPost_ret (v := .tuple #[batV seq ao k cap, .bool true]) (by simp [results, Try.results21, go_sem, batV, t0, t1]) rfl ⟨?_, Or.inr ⟨seq, os, ao, cap, HN2.out, by rw [hol], ?_⟩⟩
          · exact (HB4.out.setCell (Nat.le_refl _) _).setCell (Nat.le_refl _) _
          · rw [hol]
            exact owns_mono (owns_set (owns_set HO4.out _ _ _ (by omega)) _ _ _ (by omega)) (by omega)
        · have hAs : (A.toList == s.toList) = false := by
            rw [beq_eq_false_iff_ne]
            intro e
            have : A = s := str_eq' e
            rw [this] at hA
            exact heq hA.symm
          have HN2 : Hid (D = none) := by rw [HN.out, if_neg (fun h => heq h.2)]; exact Lib.hid rfl
          clear hA heq hsee hown hck HN HD r0 r1 r2 r3
          go_wp2_with fail
          refine HE.out.mono ?_
          rintro e w4 ⟨rfl, hb4⟩
          have hO4 := HOL.out.below hb4 (by omega) (by omega)
          obtain ⟨t0, t1, t2, t3⟩ := hO4.rv
          have HB4 := Lib.hid (Below.next hbel hb4)
          clear hb4 hO4 hc0 hc1 hcf
          go_wp2_with fail
          refine bodyPost_ret (v := noBat) (by simp [results, Try.results21, go_sem, noBat, batV, t0, t1]) rfl ⟨?_, Or.inl ⟨HN2.out, rfl⟩⟩
          exact (HB4.out.setCell (Nat.le_refl _) _).setCell (Nat.le_refl _) _
      · have HN2 : Hid (D = none) := by rw [HN.out, if_neg (fun h => hck h.1)]; exact Lib.hid rfl
        obtain ⟨C, hC⟩ : ∃ C : Int, C = (Bt.chk seq os : Nat) := ⟨_, rfl⟩
        have HE : Hid (Calls Try.prog 17 #[.agg #[.int .u64 seq, .slice ao k cap]] wr (fun x W' => x = .returned (.tuple #[.string ⟨#[]⟩, .int .i64 C]) ∧ Below wr.heap.size wr W')) := by
          have h := refEncode_no seq ao k cap os wr hsee hseq hck
          unfold Told at h
          rw [← hC] at h
          exact Lib.hid h
        have hCn : (C != 0) = true := by rw [bne_iff_ne]; omega
        have hCn2 : ¬ C = 0 := by omega
        clear hsee hown hck HN HD hC r0 r1 r2 r3
        go_wp2_with fail
        refine HE.out.mono ?_
        rintro e w4 ⟨rfl, hb4⟩
        have hO4 := HOL.out.below hb4 (by omega) (by omega)
        obtain ⟨t0, t1, t2, t3⟩ := hO4.rv
        have HB4 := Lib.hid (Below.next hbel hb4)
        clear hb4 hO4 hc0 hc1 hcf
        go_wp2_with fail
        refine bodyPost_ret (v := noBat) (by simp [results, Try.results21, go_sem, noBat, batV, t0, t1]) rfl ⟨?_, Or.inl ⟨HN2.out, rfl⟩⟩
        exact (HB4.out.setCell (Nat.le_refl _) _).setCell (Nat.le_refl _) _

end Go.Proofs.Ytohfjibhfbcanaa
