/- The walk of CellReads. -/
import Derived.Test.YtclgjphegaoohaaDoorCellMakes
import Derived.Test.YtclgjphegaoohaaDoorCellT
namespace Go.Proofs.YtclgjphegaoohaaDoor
open Go.RowKit

theorem rdV_tuple (s : ByteArray) : ∃ (f l : Bool) (n : Int) (d : ByteArray) (ok : Bool), rdV s = .tuple #[.agg #[.bool f, .bool l, .int .i64 n, .string d], .bool ok] := by
  unfold rdV
  split
  · exact ⟨_, _, _, _, _, rfl⟩
  · exact ⟨_, _, _, _, _, rfl⟩

/-- The four cells of a cell that lies in memory. -/
def Lies (w : World) (p : Nat) (f l : Bool) (n : Int) (d : ByteArray) (t : TypeId) : Prop := w.heap[p]? = some (.cells #[.bool f, .bool l, .int .i64 n, .string d] t (0, 0))
theorem Lies.at {w : World} {p : Nat} {f l : Bool} {n : Int} {d : ByteArray} {t : TypeId} (h : Lies w p f l n d t) :
    w.cell? ⟨p, 0, none⟩ = some (.bool f) ∧ w.cell? ⟨p, 1, none⟩ = some (.bool l) ∧ w.cell? ⟨p, 2, none⟩ = some (.int .i64 n) ∧ w.cell? ⟨p, 3, none⟩ = some (.string d) :=
  ⟨cell_of_row w p 0 _ _ _ h, cell_of_row w p 1 _ _ _ h, cell_of_row w p 2 _ _ _ h, cell_of_row w p 3 _ _ _ h⟩
theorem Lies.lt {w : World} {p : Nat} {f l : Bool} {n : Int} {d : ByteArray} {t : TypeId} (h : Lies w p f l n d t) : p < w.heap.size := (Array.getElem?_eq_some_iff.1 h).1
theorem Lies.free {w : World} {p : Nat} {f l : Bool} {n : Int} {d : ByteArray} {t : TypeId} (h : Lies w p f l n d t) : ∀ o, w.frozen? ⟨p, o, none⟩ = false := fun o => by
  have h' : w.heap[p]? = _ := h
  simp [World.frozen?, h']
theorem Lies.below {w w' : World} {p : Nat} {f l : Bool} {n : Int} {d : ByteArray} {t : TypeId} (h : Lies w p f l n d t) (hb : Below w.heap.size w w') : Lies w' p f l n d t := (hb.block p h.lt).trans h
theorem lies_new (w : World) (f l : Bool) (n : Int) (d : ByteArray) (t : TypeId) : Lies (w.alloc (.cells #[.bool f, .bool l, .int .i64 n, .string d] t)) w.heap.size f l n d t := heap_alloc_new w _

/-- What was kept behind a draw was kept. -/
theorem Below.of_drew {w w' : World} (h : Below w.drew.heap.size w.drew w') : Below w.heap.size w w' := Below.next ((Below.refl _ w).drew) h

/-- Four cells are stored. -/
def set4 (w : World) (p : Nat) (f l : Bool) (n : Int) (d : ByteArray) : World := (((w.setCell ⟨p, 0, none⟩ (.bool f)).setCell ⟨p, 1, none⟩ (.bool l)).setCell ⟨p, 2, none⟩ (.int .i64 n)).setCell ⟨p, 3, none⟩ (.string d)
theorem Lies.set {w : World} {p : Nat} {f l : Bool} {n : Int} {d : ByteArray} {t : TypeId} (h : Lies w p f l n d t) (f' l' : Bool) (n' : Int) (d' : ByteArray) : Lies (set4 w p f' l' n' d') p f' l' n' d' t :=
  Lib.heap_setCell_same (i := 3) (Lib.heap_setCell_same (i := 2) (Lib.heap_setCell_same (i := 1) (Lib.heap_setCell_same (i := 0) h _) _) _) _
theorem Lies.set_other {w : World} {p q : Nat} {f l : Bool} {n : Int} {d : ByteArray} {t : TypeId} (h : Lies w q f l n d t) (hne : q ≠ p) (f' l' : Bool) (n' : Int) (d' : ByteArray) : Lies (set4 w p f' l' n' d') q f l n d t := by
  unfold Lies set4
  rw [heap_setCell_other _ _ _ _ hne, heap_setCell_other _ _ _ _ hne, heap_setCell_other _ _ _ _ hne, heap_setCell_other _ _ _ _ hne]
  exact h
theorem below_set4 {w0 w : World} {b p : Nat} (h : Below b w0 w) (hp : b ≤ p) (f l : Bool) (n : Int) (d : ByteArray) : Below b w0 (set4 w p f l n d) :=
  (((h.setCell (p := ⟨p, 0, none⟩) hp _).setCell (p := ⟨p, 1, none⟩) hp _).setCell (p := ⟨p, 2, none⟩) hp _).setCell (p := ⟨p, 3, none⟩) hp _

set_option maxRecDepth 100000 in
set_option maxHeartbeats 2000000 in
theorem reads_short (s : ByteArray) (w : World) (hT : Tab w) (h100 : ¬ 100 < (s.size : Int)) (h28 : ¬ 28 ≤ (s.size : Int)) :
    Calls Tryd.prog 6 #[.string s] w (Gives (.bool true) w) := by
  obtain ⟨f, l, n, d, ok, hr⟩ := rdV_tuple s
  have HR := Lib.hid hr; clear hr
  have HT := Lib.hid hT; clear hT
  obtain ⟨t, ht⟩ : ∃ t, t = s := ⟨_, rfl⟩
  obtain ⟨f2, l2, n2, d2, ok2, hr2⟩ := rdV_tuple t
  have HR2 := Lib.hid hr2; clear hr2
  have HTS := Lib.hid ht; clear ht
  go_enter Tryd.func6, Tryd.ntmps6
  go_wp2_with fail
  refine (read_any s _ HT.out).mono ?_
  rintro e w1 ⟨rfl, hb⟩
  rw [HR.out]
  have HB1 := Lib.hid hb; clear hb
  go_wp2_with fail
  refine (refRead_any s _).mono ?_
  rintro e w2 ⟨rfl, hb⟩
  rw [HR.out]
  have HP5 := Lib.hid ((lies_new w1 f l n d 23).below hb)
  have HB2 := Lib.hid (Below.next (Below.next_alloc HB1.out _) hb)
  have h05 : w.heap.size ≤ w1.heap.size := HB1.out.size
  clear hb
  have h57 : w1.heap.size < w2.heap.size := HP5.out.lt
  have HQ5 := Lib.hid (HP5.out.below ((Below.refl _ w2).alloc (Nat.le_refl _) (.cells #[.bool f, .bool l, .int .i64 n, .string d] 34)))
  have HP7 := Lib.hid (lies_new w2 f l n d 34)
  have HB3 := Lib.hid (Below.next_alloc HB2.out (.cells #[.bool f, .bool l, .int .i64 n, .string d] 34))
  clear HP5
  go_wp2_with fail
  generalize w2.alloc (.cells #[.bool f, .bool l, .int .i64 n, .string d] 34) = w3 at *
  generalize w1.heap.size = p5 at *
  generalize w2.heap.size = p7 at *
  have h5 := HQ5.out.lt
  have h7 := HP7.out.lt
  obtain ⟨a0, a1, a2, a3⟩ := HQ5.out.at
  obtain ⟨b0, b1, b2, b3⟩ := HP7.out.at
  clear HB1 HB2
  go_region_held3 (fun w' => w'.cell? ⟨p5, 0, none⟩ = some (.bool f) ∧ w'.cell? ⟨p5, 1, none⟩ = some (.bool l) ∧ w'.cell? ⟨p5, 2, none⟩ = some (.int .i64 n) ∧ w'.cell? ⟨p5, 3, none⟩ = some (.string d) ∧ w'.cell? ⟨p7, 0, none⟩ = some (.bool f) ∧ w'.cell? ⟨p7, 1, none⟩ = some (.bool l) ∧ w'.cell? ⟨p7, 2, none⟩ = some (.int .i64 n) ∧ w'.cell? ⟨p7, 3, none⟩ = some (.string d)) (first | go_keep | (exact ⟨(hb4.cell (p := ⟨p5, 0, none⟩) h5).trans a0, (hb4.cell (p := ⟨p5, 1, none⟩) h5).trans a1, (hb4.cell (p := ⟨p5, 2, none⟩) h5).trans a2, (hb4.cell (p := ⟨p5, 3, none⟩) h5).trans a3, (hb4.cell (p := ⟨p7, 0, none⟩) h7).trans b0, (hb4.cell (p := ⟨p7, 1, none⟩) h7).trans b1, (hb4.cell (p := ⟨p7, 2, none⟩) h7).trans b2, (hb4.cell (p := ⟨p7, 3, none⟩) h7).trans b3⟩)) (first | ((with_reducible refine (given_any f l n d _).mono ?_); rintro e w4 ⟨rfl, hb4⟩))
  have HP5 := Lib.hid (HQ5.out.below (Below.of_drew hb4))
  have HQ7 := Lib.hid (HP7.out.below (Below.of_drew hb4))
  have HB4 := Lib.hid (Below.next HB3.out (Below.of_drew hb4))
  clear hb4 a0 a1 a2 a3 b0 b1 b2 b3 HQ5 HP7 HB3 h5 h7
  go_wp2_with fail
  rw [← HTS.out]
  refine (read_any t _ (HT.out.below HB4.out)).mono ?_
  rintro e w5 ⟨rfl, hb⟩
  rw [HR2.out]
  have HQ5 := Lib.hid (HP5.out.below hb)
  have HP7 := Lib.hid (HQ7.out.below hb)
  have HB5 := Lib.hid (Below.next HB4.out hb)
  clear hb HP5 HQ7 HB4
  obtain ⟨a0, a1, a2, a3⟩ := HQ5.out.at
  have a4 := HQ5.out.free
  have HS5 := Lib.hid (HQ5.out.set f2 l2 n2 d2)
  have HS7 := Lib.hid (HP7.out.set_other (p := p5) (by omega) f2 l2 n2 d2)
  have HB6 := Lib.hid (below_set4 HB5.out h05 f2 l2 n2 d2)
  clear HQ5 HP7 HB5
  unfold set4 at HS5 HS7 HB6
  go_wp2_with fail
  generalize (((w5.setCell ⟨p5, 0, none⟩ (.bool f2)).setCell ⟨p5, 1, none⟩ (.bool l2)).setCell ⟨p5, 2, none⟩ (.int .i64 n2)).setCell ⟨p5, 3, none⟩ (.string d2) = w6 at *
  clear a0 a1 a2 a3 a4
  refine (refRead_any t _).mono ?_
  rintro e w7 ⟨rfl, hb⟩
  rw [HR2.out]
  have HQ5 := Lib.hid (HS5.out.below hb)
  have HQ7 := Lib.hid (HS7.out.below hb)
  have HB7 := Lib.hid (Below.next HB6.out hb)
  clear hb HS5 HS7 HB6
  obtain ⟨a0, a1, a2, a3⟩ := HQ7.out.at
  have a4 := HQ7.out.free
  have HS7 := Lib.hid (HQ7.out.set f2 l2 n2 d2)
  have HS5 := Lib.hid (HQ5.out.set_other (p := p7) (by omega) f2 l2 n2 d2)
  have HB8 := Lib.hid (below_set4 HB7.out (show w.heap.size ≤ p7 by omega) f2 l2 n2 d2)
  clear HQ5 HQ7 HB7
  unfold set4 at HS5 HS7 HB8
  go_wp2_with fail
  generalize (((w7.setCell ⟨p7, 0, none⟩ (.bool f2)).setCell ⟨p7, 1, none⟩ (.bool l2)).setCell ⟨p7, 2, none⟩ (.int .i64 n2)).setCell ⟨p7, 3, none⟩ (.string d2) = w8 at *
  clear a0 a1 a2 a3 a4
  have h5 := HS5.out.lt
  have h7 := HS7.out.lt
  obtain ⟨a0, a1, a2, a3⟩ := HS5.out.at
  obtain ⟨b0, b1, b2, b3⟩ := HS7.out.at
  have HAW := Lib.hid (fun (x : World) (hx : Below w.heap.size w x) => awake_any x (HT.out.below hx))
  go_region_held3 (fun w' => w'.cell? ⟨p5, 0, none⟩ = some (.bool f2) ∧ w'.cell? ⟨p5, 1, none⟩ = some (.bool l2) ∧ w'.cell? ⟨p5, 2, none⟩ = some (.int .i64 n2) ∧ w'.cell? ⟨p5, 3, none⟩ = some (.string d2) ∧ w'.cell? ⟨p7, 0, none⟩ = some (.bool f2) ∧ w'.cell? ⟨p7, 1, none⟩ = some (.bool l2) ∧ w'.cell? ⟨p7, 2, none⟩ = some (.int .i64 n2) ∧ w'.cell? ⟨p7, 3, none⟩ = some (.string d2)) (first | go_keep | (exact ⟨(hb9.cell (p := ⟨p5, 0, none⟩) h5).trans a0, (hb9.cell (p := ⟨p5, 1, none⟩) h5).trans a1, (hb9.cell (p := ⟨p5, 2, none⟩) h5).trans a2, (hb9.cell (p := ⟨p5, 3, none⟩) h5).trans a3, (hb9.cell (p := ⟨p7, 0, none⟩) h7).trans b0, (hb9.cell (p := ⟨p7, 1, none⟩) h7).trans b1, (hb9.cell (p := ⟨p7, 2, none⟩) h7).trans b2, (hb9.cell (p := ⟨p7, 3, none⟩) h7).trans b3⟩) | (exact ⟨((Below.next (Below.of_drew hb9) hbA).cell (p := ⟨p5, 0, none⟩) h5).trans a0, ((Below.next (Below.of_drew hb9) hbA).cell (p := ⟨p5, 1, none⟩) h5).trans a1, ((Below.next (Below.of_drew hb9) hbA).cell (p := ⟨p5, 2, none⟩) h5).trans a2, ((Below.next (Below.of_drew hb9) hbA).cell (p := ⟨p5, 3, none⟩) h5).trans a3, ((Below.next (Below.of_drew hb9) hbA).cell (p := ⟨p7, 0, none⟩) h7).trans b0, ((Below.next (Below.of_drew hb9) hbA).cell (p := ⟨p7, 1, none⟩) h7).trans b1, ((Below.next (Below.of_drew hb9) hbA).cell (p := ⟨p7, 2, none⟩) h7).trans b2, ((Below.next (Below.of_drew hb9) hbA).cell (p := ⟨p7, 3, none⟩) h7).trans b3⟩))
    (first
      | ((with_reducible refine (given_any f2 l2 n2 d2 _).mono ?_); rintro e w9 ⟨rfl, hb9⟩)
      | ((with_reducible refine (HAW.out _ (Below.next HB8.out (Below.of_drew hb9))).mono ?_); rintro e wA ⟨rfl, hbA⟩))
  have HBA := Lib.hid (Below.next HB8.out (Below.next (Below.of_drew hb9) hbA))
  clear hb9 hbA a0 a1 a2 a3 b0 b1 b2 b3
  go_wp2_with fail
  go_ret
  exact ⟨rfl, HBA.out⟩

/-- The text of four bytes that were laid just now, behind a draw. -/
theorem four_later (w : World) (a b c e : Int) (ha : 0 ≤ a ∧ a < 256) (hb : 0 ≤ b ∧ b < 256) (hc : 0 ≤ c ∧ c < 256) (he : 0 ≤ e ∧ e < 256) :
    ∃ E4 : ByteArray, (convert 39 9 (.slice (some ⟨w.heap.size, 0, none⟩) 4 4)).run Tryd.prog (w.alloc (.cells #[.int .u8 a, .int .u8 b, .int .u8 c, .int .u8 e] 5)).drew =
      .ok (.string E4) (w.alloc (.cells #[.int .u8 a, .int .u8 b, .int .u8 c, .int .u8 e] 5)).drew ∧ E4.size = 4 := by
  have hx : ∀ x : Int, 0 ≤ x ∧ x < 256 → ((UInt8.ofNat x.toNat).toNat : Int) = x := fun x hx => by rw [Cr.toNat_ofNat]; omega
  have h4 : (w.alloc (.cells #[.int .u8 a, .int .u8 b, .int .u8 c, .int .u8 e] 5)).drew.heap[w.heap.size]? = some (.cells (Lib.byteCells [UInt8.ofNat a.toNat, UInt8.ofNat b.toNat, UInt8.ofNat c.toNat, UInt8.ofNat e.toNat]).toArray 5 (0, 0)) := by
    rw [heap_drew, heap_alloc_new]
    simp only [Lib.byteCells, List.map_cons, List.map_nil, hx a ha, hx b hb, hx c hc, hx e he]
  exact ⟨_, row_text h4 4 (Nat.le_refl _) 4, rfl⟩

set_option maxRecDepth 100000 in
set_option maxHeartbeats 2000000 in
theorem reads_long (s : ByteArray) (w : World) (hT : Tab w) (h100 : ¬ 100 < (s.size : Int)) (h28 : 28 ≤ (s.size : Int)) :
    Calls Tryd.prog 6 #[.string s] w (Gives (.bool true) w) := by
  obtain ⟨f, l, n, d, ok, hr⟩ := rdV_tuple s
  have HR := Lib.hid hr; clear hr
  have HT := Lib.hid hT; clear hT
  obtain ⟨A, hA⟩ : ∃ A, A = s.extract 0 28 := ⟨_, rfl⟩
  have hAs : A.size = 28 := by rw [hA, ByteArray.size_extract]; omega
  have hsl : ∀ w : World, (Instr.slice 9 (.string s) none (some (.int .i64 28)) none).run Tryd.prog w = .ok (.string A) w := fun w => by
    rw [run_slice_string_h w 9 s Tryd.underlying9 .i64 28 (by omega) (by omega), hA]
    rfl
  have hA1 : A.size ≤ 28 := by omega
  have hA2 : 28 ≤ A.size := by omega
  clear hA hAs
  go_enter Tryd.func6, Tryd.ntmps6
  go_wp2_with fail
  refine (refCrc_any A _ (by omega)).mono ?_
  rintro e w0 ⟨rfl, rfl⟩
  have hq := Cr.crc_lt A.data.toList
  generalize Cr.crc A.data.toList = Q at *
  obtain ⟨q0, hq0⟩ : ∃ q : Int, q = (Q : Int) % 256 := ⟨_, rfl⟩
  obtain ⟨q1, hq1⟩ : ∃ q : Int, q = (Q : Int) / 256 % 256 := ⟨_, rfl⟩
  obtain ⟨q2, hq2⟩ : ∃ q : Int, q = (Q : Int) / 65536 % 256 := ⟨_, rfl⟩
  obtain ⟨q3, hq3⟩ : ∃ q : Int, q = (Q : Int) / 16777216 % 256 := ⟨_, rfl⟩
  have u0 : IntKind.u8.wrap (Q : Int) = q0 := by rw [IntKind.wrap_u8', hq0]
  have u1 : IntKind.u8.wrap ((Q : Int) / 256) = q1 := by rw [IntKind.wrap_u8', hq1]
  have u2 : IntKind.u8.wrap ((Q : Int) / 65536) = q2 := by rw [IntKind.wrap_u8', hq2]
  have u3 : IntKind.u8.wrap ((Q : Int) / 16777216) = q3 := by rw [IntKind.wrap_u8', hq3]
  obtain ⟨E4, hE, hE4⟩ := four_later w q0 q1 q2 q3 (by omega) (by omega) (by omega) (by omega)
  have hE2 : E4.size ≤ 4 := by omega
  have hadd : ¬ 9223372036854775807 < A.size + E4.size := by omega
  clear hq0 hq1 hq2 hq3 hE4
  obtain ⟨t, ht⟩ : ∃ t, t = A ++ E4 := ⟨_, rfl⟩
  obtain ⟨f2, l2, n2, d2, ok2, hr2⟩ := rdV_tuple t
  have HR2 := Lib.hid hr2; clear hr2
  have HTS := Lib.hid ht; clear ht
  go_wp2_with fail
  go_region_law (fail)
  rw [← HTS.out]
  have HB0 := Lib.hid ((((Below.refl w.heap.size w).alloc (Nat.le_refl _) (.cells #[.int .u8 q0, .int .u8 q1, .int .u8 q2, .int .u8 q3] 5)).drew))
  generalize (w.alloc (.cells #[.int .u8 q0, .int .u8 q1, .int .u8 q2, .int .u8 q3] 5)).drew = wz at *
  clear u0 u1 u2 u3 hE hE2 hadd hA1 hA2 hsl hq
  go_wp2_with fail
  refine (read_any s _ (HT.out.below HB0.out)).mono ?_
  rintro e w1 ⟨rfl, hb⟩
  rw [HR.out]
  have HB1 := Lib.hid (Below.next HB0.out hb); clear hb
  go_wp2_with fail
  refine (refRead_any s _).mono ?_
  rintro e w2 ⟨rfl, hb⟩
  rw [HR.out]
  have HP5 := Lib.hid ((lies_new w1 f l n d 23).below hb)
  have HB2 := Lib.hid (Below.next (Below.next_alloc HB1.out _) hb)
  have h05 : w.heap.size ≤ w1.heap.size := HB1.out.size
  clear hb
  have h57 : w1.heap.size < w2.heap.size := HP5.out.lt
  have HQ5 := Lib.hid (HP5.out.below ((Below.refl _ w2).alloc (Nat.le_refl _) (.cells #[.bool f, .bool l, .int .i64 n, .string d] 34)))
  have HP7 := Lib.hid (lies_new w2 f l n d 34)
  have HB3 := Lib.hid (Below.next_alloc HB2.out (.cells #[.bool f, .bool l, .int .i64 n, .string d] 34))
  clear HP5
  go_wp2_with fail
  generalize w2.alloc (.cells #[.bool f, .bool l, .int .i64 n, .string d] 34) = w3 at *
  generalize w1.heap.size = p5 at *
  generalize w2.heap.size = p7 at *
  have h5 := HQ5.out.lt
  have h7 := HP7.out.lt
  obtain ⟨a0, a1, a2, a3⟩ := HQ5.out.at
  obtain ⟨b0, b1, b2, b3⟩ := HP7.out.at
  clear HB1 HB2
  go_region_held3 (fun w' => w'.cell? ⟨p5, 0, none⟩ = some (.bool f) ∧ w'.cell? ⟨p5, 1, none⟩ = some (.bool l) ∧ w'.cell? ⟨p5, 2, none⟩ = some (.int .i64 n) ∧ w'.cell? ⟨p5, 3, none⟩ = some (.string d) ∧ w'.cell? ⟨p7, 0, none⟩ = some (.bool f) ∧ w'.cell? ⟨p7, 1, none⟩ = some (.bool l) ∧ w'.cell? ⟨p7, 2, none⟩ = some (.int .i64 n) ∧ w'.cell? ⟨p7, 3, none⟩ = some (.string d)) (first | go_keep | (exact ⟨(hb4.cell (p := ⟨p5, 0, none⟩) h5).trans a0, (hb4.cell (p := ⟨p5, 1, none⟩) h5).trans a1, (hb4.cell (p := ⟨p5, 2, none⟩) h5).trans a2, (hb4.cell (p := ⟨p5, 3, none⟩) h5).trans a3, (hb4.cell (p := ⟨p7, 0, none⟩) h7).trans b0, (hb4.cell (p := ⟨p7, 1, none⟩) h7).trans b1, (hb4.cell (p := ⟨p7, 2, none⟩) h7).trans b2, (hb4.cell (p := ⟨p7, 3, none⟩) h7).trans b3⟩)) (first | ((with_reducible refine (given_any f l n d _).mono ?_); rintro e w4 ⟨rfl, hb4⟩))
  have HP5 := Lib.hid (HQ5.out.below (Below.of_drew hb4))
  have HQ7 := Lib.hid (HP7.out.below (Below.of_drew hb4))
  have HB4 := Lib.hid (Below.next HB3.out (Below.of_drew hb4))
  clear hb4 a0 a1 a2 a3 b0 b1 b2 b3 HQ5 HP7 HB3 h5 h7
  go_wp2_with fail
  refine (read_any t _ (HT.out.below HB4.out)).mono ?_
  rintro e w5 ⟨rfl, hb⟩
  rw [HR2.out]
  have HQ5 := Lib.hid (HP5.out.below hb)
  have HP7 := Lib.hid (HQ7.out.below hb)
  have HB5 := Lib.hid (Below.next HB4.out hb)
  clear hb HP5 HQ7 HB4
  obtain ⟨a0, a1, a2, a3⟩ := HQ5.out.at
  have a4 := HQ5.out.free
  have HS5 := Lib.hid (HQ5.out.set f2 l2 n2 d2)
  have HS7 := Lib.hid (HP7.out.set_other (p := p5) (by omega) f2 l2 n2 d2)
  have HB6 := Lib.hid (below_set4 HB5.out h05 f2 l2 n2 d2)
  clear HQ5 HP7 HB5
  unfold set4 at HS5 HS7 HB6
  go_wp2_with fail
  generalize (((w5.setCell ⟨p5, 0, none⟩ (.bool f2)).setCell ⟨p5, 1, none⟩ (.bool l2)).setCell ⟨p5, 2, none⟩ (.int .i64 n2)).setCell ⟨p5, 3, none⟩ (.string d2) = w6 at *
  clear a0 a1 a2 a3 a4
  refine (refRead_any t _).mono ?_
  rintro e w7 ⟨rfl, hb⟩
  rw [HR2.out]
  have HQ5 := Lib.hid (HS5.out.below hb)
  have HQ7 := Lib.hid (HS7.out.below hb)
  have HB7 := Lib.hid (Below.next HB6.out hb)
  clear hb HS5 HS7 HB6
  obtain ⟨a0, a1, a2, a3⟩ := HQ7.out.at
  have a4 := HQ7.out.free
  have HS7 := Lib.hid (HQ7.out.set f2 l2 n2 d2)
  have HS5 := Lib.hid (HQ5.out.set_other (p := p7) (by omega) f2 l2 n2 d2)
  have HB8 := Lib.hid (below_set4 HB7.out (show w.heap.size ≤ p7 by omega) f2 l2 n2 d2)
  clear HQ5 HQ7 HB7
  unfold set4 at HS5 HS7 HB8
  go_wp2_with fail
  generalize (((w7.setCell ⟨p7, 0, none⟩ (.bool f2)).setCell ⟨p7, 1, none⟩ (.bool l2)).setCell ⟨p7, 2, none⟩ (.int .i64 n2)).setCell ⟨p7, 3, none⟩ (.string d2) = w8 at *
  clear a0 a1 a2 a3 a4
  have h5 := HS5.out.lt
  have h7 := HS7.out.lt
  obtain ⟨a0, a1, a2, a3⟩ := HS5.out.at
  obtain ⟨b0, b1, b2, b3⟩ := HS7.out.at
  have HAW := Lib.hid (fun (x : World) (hx : Below w.heap.size w x) => awake_any x (HT.out.below hx))
  go_region_held3 (fun w' => w'.cell? ⟨p5, 0, none⟩ = some (.bool f2) ∧ w'.cell? ⟨p5, 1, none⟩ = some (.bool l2) ∧ w'.cell? ⟨p5, 2, none⟩ = some (.int .i64 n2) ∧ w'.cell? ⟨p5, 3, none⟩ = some (.string d2) ∧ w'.cell? ⟨p7, 0, none⟩ = some (.bool f2) ∧ w'.cell? ⟨p7, 1, none⟩ = some (.bool l2) ∧ w'.cell? ⟨p7, 2, none⟩ = some (.int .i64 n2) ∧ w'.cell? ⟨p7, 3, none⟩ = some (.string d2)) (first | go_keep | (exact ⟨(hb9.cell (p := ⟨p5, 0, none⟩) h5).trans a0, (hb9.cell (p := ⟨p5, 1, none⟩) h5).trans a1, (hb9.cell (p := ⟨p5, 2, none⟩) h5).trans a2, (hb9.cell (p := ⟨p5, 3, none⟩) h5).trans a3, (hb9.cell (p := ⟨p7, 0, none⟩) h7).trans b0, (hb9.cell (p := ⟨p7, 1, none⟩) h7).trans b1, (hb9.cell (p := ⟨p7, 2, none⟩) h7).trans b2, (hb9.cell (p := ⟨p7, 3, none⟩) h7).trans b3⟩) | (exact ⟨((Below.next (Below.of_drew hb9) hbA).cell (p := ⟨p5, 0, none⟩) h5).trans a0, ((Below.next (Below.of_drew hb9) hbA).cell (p := ⟨p5, 1, none⟩) h5).trans a1, ((Below.next (Below.of_drew hb9) hbA).cell (p := ⟨p5, 2, none⟩) h5).trans a2, ((Below.next (Below.of_drew hb9) hbA).cell (p := ⟨p5, 3, none⟩) h5).trans a3, ((Below.next (Below.of_drew hb9) hbA).cell (p := ⟨p7, 0, none⟩) h7).trans b0, ((Below.next (Below.of_drew hb9) hbA).cell (p := ⟨p7, 1, none⟩) h7).trans b1, ((Below.next (Below.of_drew hb9) hbA).cell (p := ⟨p7, 2, none⟩) h7).trans b2, ((Below.next (Below.of_drew hb9) hbA).cell (p := ⟨p7, 3, none⟩) h7).trans b3⟩))
    (first
      | ((with_reducible refine (given_any f2 l2 n2 d2 _).mono ?_); rintro e w9 ⟨rfl, hb9⟩)
      | ((with_reducible refine (HAW.out _ (Below.next HB8.out (Below.of_drew hb9))).mono ?_); rintro e wA ⟨rfl, hbA⟩))
  have HBA := Lib.hid (Below.next HB8.out (Below.next (Below.of_drew hb9) hbA))
  clear hb9 hbA a0 a1 a2 a3 b0 b1 b2 b3
  go_wp2_with fail
  go_ret
  exact ⟨rfl, HBA.out⟩

set_option maxRecDepth 100000 in
set_option maxHeartbeats 2000000 in
theorem reads_great (s : ByteArray) (w : World) (hT : Tab w) (h100 : 100 < (s.size : Int)) :
    Calls Tryd.prog 6 #[.string s] w (Gives (.bool true) w) := by
  obtain ⟨s1, hs1⟩ : ∃ s1, s1 = s.extract 0 100 := ⟨_, rfl⟩
  have hs1s : s1.size = 100 := by rw [hs1, ByteArray.size_extract]; omega
  have hsl1 : ∀ w : World, (Instr.slice 9 (.string s) none (some (.int .i64 100)) none).run Tryd.prog w = .ok (.string s1) w := fun w => by
    rw [run_slice_string_h w 9 s Tryd.underlying9 .i64 100 (by omega) (by omega), hs1]
    rfl
  have h28 : 28 ≤ (s1.size : Int) := by omega
  have h99 : s1.size ≤ 100 := by omega
  obtain ⟨f, l, n, d, ok, hr⟩ := rdV_tuple s1
  have HR := Lib.hid hr; clear hr
  have HT := Lib.hid hT; clear hT
  obtain ⟨A, hA⟩ : ∃ A, A = s1.extract 0 28 := ⟨_, rfl⟩
  have hAs : A.size = 28 := by rw [hA, ByteArray.size_extract]; omega
  have hsl : ∀ w : World, (Instr.slice 9 (.string s1) none (some (.int .i64 28)) none).run Tryd.prog w = .ok (.string A) w := fun w => by
    rw [run_slice_string_h w 9 s1 Tryd.underlying9 .i64 28 (by omega) (by omega), hA]
    rfl
  have hA1 : A.size ≤ 28 := by omega
  have hA2 : 28 ≤ A.size := by omega
  clear hA hAs hs1 hs1s
  go_enter Tryd.func6, Tryd.ntmps6
  go_wp2_with fail
  refine (refCrc_any A _ (by omega)).mono ?_
  rintro e w0 ⟨rfl, rfl⟩
  have hq := Cr.crc_lt A.data.toList
  generalize Cr.crc A.data.toList = Q at *
  obtain ⟨q0, hq0⟩ : ∃ q : Int, q = (Q : Int) % 256 := ⟨_, rfl⟩
  obtain ⟨q1, hq1⟩ : ∃ q : Int, q = (Q : Int) / 256 % 256 := ⟨_, rfl⟩
  obtain ⟨q2, hq2⟩ : ∃ q : Int, q = (Q : Int) / 65536 % 256 := ⟨_, rfl⟩
  obtain ⟨q3, hq3⟩ : ∃ q : Int, q = (Q : Int) / 16777216 % 256 := ⟨_, rfl⟩
  have u0 : IntKind.u8.wrap (Q : Int) = q0 := by rw [IntKind.wrap_u8', hq0]
  have u1 : IntKind.u8.wrap ((Q : Int) / 256) = q1 := by rw [IntKind.wrap_u8', hq1]
  have u2 : IntKind.u8.wrap ((Q : Int) / 65536) = q2 := by rw [IntKind.wrap_u8', hq2]
  have u3 : IntKind.u8.wrap ((Q : Int) / 16777216) = q3 := by rw [IntKind.wrap_u8', hq3]
  obtain ⟨E4, hE, hE4⟩ := four_later w q0 q1 q2 q3 (by omega) (by omega) (by omega) (by omega)
  have hE2 : E4.size ≤ 4 := by omega
  have hadd : ¬ 9223372036854775807 < A.size + E4.size := by omega
  clear hq0 hq1 hq2 hq3 hE4
  obtain ⟨t, ht⟩ : ∃ t, t = A ++ E4 := ⟨_, rfl⟩
  obtain ⟨f2, l2, n2, d2, ok2, hr2⟩ := rdV_tuple t
  have HR2 := Lib.hid hr2; clear hr2
  have HTS := Lib.hid ht; clear ht
  go_wp2_with fail
  go_region_law (fail)
  rw [← HTS.out]
  have HB0 := Lib.hid ((((Below.refl w.heap.size w).alloc (Nat.le_refl _) (.cells #[.int .u8 q0, .int .u8 q1, .int .u8 q2, .int .u8 q3] 5)).drew))
  generalize (w.alloc (.cells #[.int .u8 q0, .int .u8 q1, .int .u8 q2, .int .u8 q3] 5)).drew = wz at *
  clear u0 u1 u2 u3 hE hE2 hadd hA1 hA2 hsl hq
  go_wp2_with fail
  refine (read_any s1 _ (HT.out.below HB0.out)).mono ?_
  rintro e w1 ⟨rfl, hb⟩
  rw [HR.out]
  have HB1 := Lib.hid (Below.next HB0.out hb); clear hb
  go_wp2_with fail
  refine (refRead_any s1 _).mono ?_
  rintro e w2 ⟨rfl, hb⟩
  rw [HR.out]
  have HP5 := Lib.hid ((lies_new w1 f l n d 23).below hb)
  have HB2 := Lib.hid (Below.next (Below.next_alloc HB1.out _) hb)
  have h05 : w.heap.size ≤ w1.heap.size := HB1.out.size
  clear hb
  have h57 : w1.heap.size < w2.heap.size := HP5.out.lt
  have HQ5 := Lib.hid (HP5.out.below ((Below.refl _ w2).alloc (Nat.le_refl _) (.cells #[.bool f, .bool l, .int .i64 n, .string d] 34)))
  have HP7 := Lib.hid (lies_new w2 f l n d 34)
  have HB3 := Lib.hid (Below.next_alloc HB2.out (.cells #[.bool f, .bool l, .int .i64 n, .string d] 34))
  clear HP5
  go_wp2_with fail
  generalize w2.alloc (.cells #[.bool f, .bool l, .int .i64 n, .string d] 34) = w3 at *
  generalize w1.heap.size = p5 at *
  generalize w2.heap.size = p7 at *
  have h5 := HQ5.out.lt
  have h7 := HP7.out.lt
  obtain ⟨a0, a1, a2, a3⟩ := HQ5.out.at
  obtain ⟨b0, b1, b2, b3⟩ := HP7.out.at
  clear HB1 HB2
  go_region_held3 (fun w' => w'.cell? ⟨p5, 0, none⟩ = some (.bool f) ∧ w'.cell? ⟨p5, 1, none⟩ = some (.bool l) ∧ w'.cell? ⟨p5, 2, none⟩ = some (.int .i64 n) ∧ w'.cell? ⟨p5, 3, none⟩ = some (.string d) ∧ w'.cell? ⟨p7, 0, none⟩ = some (.bool f) ∧ w'.cell? ⟨p7, 1, none⟩ = some (.bool l) ∧ w'.cell? ⟨p7, 2, none⟩ = some (.int .i64 n) ∧ w'.cell? ⟨p7, 3, none⟩ = some (.string d)) (first | go_keep | (exact ⟨(hb4.cell (p := ⟨p5, 0, none⟩) h5).trans a0, (hb4.cell (p := ⟨p5, 1, none⟩) h5).trans a1, (hb4.cell (p := ⟨p5, 2, none⟩) h5).trans a2, (hb4.cell (p := ⟨p5, 3, none⟩) h5).trans a3, (hb4.cell (p := ⟨p7, 0, none⟩) h7).trans b0, (hb4.cell (p := ⟨p7, 1, none⟩) h7).trans b1, (hb4.cell (p := ⟨p7, 2, none⟩) h7).trans b2, (hb4.cell (p := ⟨p7, 3, none⟩) h7).trans b3⟩)) (first | ((with_reducible refine (given_any f l n d _).mono ?_); rintro e w4 ⟨rfl, hb4⟩))
  have HP5 := Lib.hid (HQ5.out.below (Below.of_drew hb4))
  have HQ7 := Lib.hid (HP7.out.below (Below.of_drew hb4))
  have HB4 := Lib.hid (Below.next HB3.out (Below.of_drew hb4))
  clear hb4 a0 a1 a2 a3 b0 b1 b2 b3 HQ5 HP7 HB3 h5 h7
  go_wp2_with fail
  refine (read_any t _ (HT.out.below HB4.out)).mono ?_
  rintro e w5 ⟨rfl, hb⟩
  rw [HR2.out]
  have HQ5 := Lib.hid (HP5.out.below hb)
  have HP7 := Lib.hid (HQ7.out.below hb)
  have HB5 := Lib.hid (Below.next HB4.out hb)
  clear hb HP5 HQ7 HB4
  obtain ⟨a0, a1, a2, a3⟩ := HQ5.out.at
  have a4 := HQ5.out.free
  have HS5 := Lib.hid (HQ5.out.set f2 l2 n2 d2)
  have HS7 := Lib.hid (HP7.out.set_other (p := p5) (by omega) f2 l2 n2 d2)
  have HB6 := Lib.hid (below_set4 HB5.out h05 f2 l2 n2 d2)
  clear HQ5 HP7 HB5
  unfold set4 at HS5 HS7 HB6
  go_wp2_with fail
  generalize (((w5.setCell ⟨p5, 0, none⟩ (.bool f2)).setCell ⟨p5, 1, none⟩ (.bool l2)).setCell ⟨p5, 2, none⟩ (.int .i64 n2)).setCell ⟨p5, 3, none⟩ (.string d2) = w6 at *
  clear a0 a1 a2 a3 a4
  refine (refRead_any t _).mono ?_
  rintro e w7 ⟨rfl, hb⟩
  rw [HR2.out]
  have HQ5 := Lib.hid (HS5.out.below hb)
  have HQ7 := Lib.hid (HS7.out.below hb)
  have HB7 := Lib.hid (Below.next HB6.out hb)
  clear hb HS5 HS7 HB6
  obtain ⟨a0, a1, a2, a3⟩ := HQ7.out.at
  have a4 := HQ7.out.free
  have HS7 := Lib.hid (HQ7.out.set f2 l2 n2 d2)
  have HS5 := Lib.hid (HQ5.out.set_other (p := p7) (by omega) f2 l2 n2 d2)
  have HB8 := Lib.hid (below_set4 HB7.out (show w.heap.size ≤ p7 by omega) f2 l2 n2 d2)
  clear HQ5 HQ7 HB7
  unfold set4 at HS5 HS7 HB8
  go_wp2_with fail
  generalize (((w7.setCell ⟨p7, 0, none⟩ (.bool f2)).setCell ⟨p7, 1, none⟩ (.bool l2)).setCell ⟨p7, 2, none⟩ (.int .i64 n2)).setCell ⟨p7, 3, none⟩ (.string d2) = w8 at *
  clear a0 a1 a2 a3 a4
  have h5 := HS5.out.lt
  have h7 := HS7.out.lt
  obtain ⟨a0, a1, a2, a3⟩ := HS5.out.at
  obtain ⟨b0, b1, b2, b3⟩ := HS7.out.at
  have HAW := Lib.hid (fun (x : World) (hx : Below w.heap.size w x) => awake_any x (HT.out.below hx))
  go_region_held3 (fun w' => w'.cell? ⟨p5, 0, none⟩ = some (.bool f2) ∧ w'.cell? ⟨p5, 1, none⟩ = some (.bool l2) ∧ w'.cell? ⟨p5, 2, none⟩ = some (.int .i64 n2) ∧ w'.cell? ⟨p5, 3, none⟩ = some (.string d2) ∧ w'.cell? ⟨p7, 0, none⟩ = some (.bool f2) ∧ w'.cell? ⟨p7, 1, none⟩ = some (.bool l2) ∧ w'.cell? ⟨p7, 2, none⟩ = some (.int .i64 n2) ∧ w'.cell? ⟨p7, 3, none⟩ = some (.string d2)) (first | go_keep | (exact ⟨(hb9.cell (p := ⟨p5, 0, none⟩) h5).trans a0, (hb9.cell (p := ⟨p5, 1, none⟩) h5).trans a1, (hb9.cell (p := ⟨p5, 2, none⟩) h5).trans a2, (hb9.cell (p := ⟨p5, 3, none⟩) h5).trans a3, (hb9.cell (p := ⟨p7, 0, none⟩) h7).trans b0, (hb9.cell (p := ⟨p7, 1, none⟩) h7).trans b1, (hb9.cell (p := ⟨p7, 2, none⟩) h7).trans b2, (hb9.cell (p := ⟨p7, 3, none⟩) h7).trans b3⟩) | (exact ⟨((Below.next (Below.of_drew hb9) hbA).cell (p := ⟨p5, 0, none⟩) h5).trans a0, ((Below.next (Below.of_drew hb9) hbA).cell (p := ⟨p5, 1, none⟩) h5).trans a1, ((Below.next (Below.of_drew hb9) hbA).cell (p := ⟨p5, 2, none⟩) h5).trans a2, ((Below.next (Below.of_drew hb9) hbA).cell (p := ⟨p5, 3, none⟩) h5).trans a3, ((Below.next (Below.of_drew hb9) hbA).cell (p := ⟨p7, 0, none⟩) h7).trans b0, ((Below.next (Below.of_drew hb9) hbA).cell (p := ⟨p7, 1, none⟩) h7).trans b1, ((Below.next (Below.of_drew hb9) hbA).cell (p := ⟨p7, 2, none⟩) h7).trans b2, ((Below.next (Below.of_drew hb9) hbA).cell (p := ⟨p7, 3, none⟩) h7).trans b3⟩))
    (first
      | ((with_reducible refine (given_any f2 l2 n2 d2 _).mono ?_); rintro e w9 ⟨rfl, hb9⟩)
      | ((with_reducible refine (HAW.out _ (Below.next HB8.out (Below.of_drew hb9))).mono ?_); rintro e wA ⟨rfl, hbA⟩))
  have HBA := Lib.hid (Below.next HB8.out (Below.next (Below.of_drew hb9) hbA))
  clear hb9 hbA a0 a1 a2 a3 b0 b1 b2 b3
  go_wp2_with fail
  go_ret
  exact ⟨rfl, HBA.out⟩

theorem reads_walk (s : ByteArray) (w : World) (hT : Tab w) (_hs : s.size ≤ 9223372036854775807) :
    Calls Tryd.prog 6 #[.string s] w (Gives (.bool true) w) := by
  by_cases h100 : 100 < (s.size : Int)
  · exact reads_great s w hT h100
  · by_cases h28 : 28 ≤ (s.size : Int)
    · exact reads_long s w hT h100 h28
    · exact reads_short s w hT h100 h28

end Go.Proofs.YtclgjphegaoohaaDoor
