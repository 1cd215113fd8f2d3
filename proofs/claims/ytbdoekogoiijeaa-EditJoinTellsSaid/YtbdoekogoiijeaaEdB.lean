/- The walk of edit.rowOf. -/
import Derived.Test.YtbdoekogoiijeaaEdA
import Derived.Test.YtbdoekogoiijeaaRefTextT
import Derived.Deep.RegionHeld3
namespace Go.Proofs.Ytbdoekogoiijeaa
open Go.RowKit
set_option linter.unusedVariables false
set_option maxRecDepth 20000

theorem sees_heap2 {w : World} {B : Nat} {s u : ByteArray} {t : TypeId} (h : w.heap[B]? = some (.cells #[.string s, .string u] t (0, 0))) : SeesS w (.slice (some ⟨B, 0, none⟩) 2 2) [s, u] := by
  have hc : w.cell? ⟨B, 0, none⟩ = some (.string s) := by simp [World.cell?, h]
  have hd : w.cell? ⟨B, 0 + 1, none⟩ = some (.string u) := by simp [World.cell?, h]
  refine Or.inr ⟨B, 0, 2, rfl, World.block_lt_of_cell? w _ hc, fun i hi => ?_⟩
  match i, hi with
  | 0, _ => exact hc
  | 1, _ => exact hd
theorem seesU_heap {w : World} {B n : Nat} {cs : Array Value} {ns : List Nat} {t : TypeId} (h : w.heap[B]? = some (.cells cs t (0, 0))) (hl : ns.length = n) (hc : ∀ i, i < n → cs[i]? = some (.int .u64 (ns.getD i 0 : Nat))) : SeesU w (.slice (some ⟨B, 0, none⟩) n n) ns := by
  subst hl
  refine Or.inr ⟨B, 0, _, rfl, Sk.heap_lt h, fun i hi => ?_⟩
  rw [Nat.zero_add, Sk.cell_of h]
  exact hc i hi
theorem h1n (w : World) (A : Obj) : (w.alloc A).drew.heap[w.heap.size]? = some A := heap_alloc_new w A
theorem h2o (w : World) (A B : Obj) : ((w.alloc A).alloc B).drew.heap[w.heap.size]? = some A := heap_alloc2_old w A B
theorem h2n (w : World) (A B : Obj) : ((w.alloc A).alloc B).drew.heap[w.heap.size + 1]? = some B := heap_alloc2_new w A B
theorem kept_block {w w1 : World} {k : Nat} {o : Obj} (h : w.heap[k]? = some o) (hb : Below w.heap.size w w1) : w1.heap[k]? = some o := by
  rw [hb.block k (Sk.heap_lt h)]; exact h
theorem size_mk (l : List UInt8) : (⟨l.toArray⟩ : ByteArray).size = l.length := by show l.toArray.size = _; simp

theorem below_one {w W w1 w2 : World} {A B : Obj} (h : Below w.heap.size w W) (h1 : Below (W.alloc A).drew.heap.size (W.alloc A).drew w1) (h2 : Below (w1.alloc B).heap.size (w1.alloc B) w2) : Below w.heap.size w w2 :=
  Below.next (Below.next_alloc (Below.next (Below.next_alloc h A).drew h1) B) h2
theorem below_two {w W w1 w2 : World} {A B : Obj} (h : Below w.heap.size w W) (h1 : Below ((W.alloc A).alloc B).drew.heap.size ((W.alloc A).alloc B).drew w1) (h2 : Below w1.heap.size w1 w2) : Below w.heap.size w w2 :=
  Below.next (Below.next (Below.next_alloc (Below.next_alloc h A) B).drew h1) h2

/-- A table's box. -/
abbrev TbBox (w : World) (b : Nat) (n : Nat) (lv ct sz : Nat) (f l : ByteArray) (le mo : Nat) : Prop := w.cell? ⟨b, 0, none⟩ = some (.int .u64 (n : Nat)) ∧ w.cell? ⟨b, 1, none⟩ = some (.int .i64 (lv : Nat)) ∧ w.cell? ⟨b, 2, none⟩ = some (.int .i64 (ct : Nat)) ∧ w.cell? ⟨b, 3, none⟩ = some (.int .i64 (sz : Nat)) ∧ w.cell? ⟨b, 4, none⟩ = some (.string f) ∧ w.cell? ⟨b, 5, none⟩ = some (.string l) ∧ w.cell? ⟨b, 6, none⟩ = some (.int .u64 (le : Nat)) ∧ w.cell? ⟨b, 7, none⟩ = some (.int .u64 (mo : Nat))
theorem TbBox.of {w w' : World} {b n lv ct sz le mo : Nat} {f l : ByteArray} (h : TbBox w b n lv ct sz f l le mo) {B : Nat} (hb : Below B w w') (hB : b < B) : TbBox w' b n lv ct sz f l le mo := by
  obtain ⟨h0, h1, h2, h3, h4, h5, h6, h7⟩ := h
  exact ⟨(hb.cell (p := ⟨b, 0, none⟩) hB).trans h0, (hb.cell (p := ⟨b, 1, none⟩) hB).trans h1, (hb.cell (p := ⟨b, 2, none⟩) hB).trans h2, (hb.cell (p := ⟨b, 3, none⟩) hB).trans h3, (hb.cell (p := ⟨b, 4, none⟩) hB).trans h4, (hb.cell (p := ⟨b, 5, none⟩) hB).trans h5, (hb.cell (p := ⟨b, 6, none⟩) hB).trans h6, (hb.cell (p := ⟨b, 7, none⟩) hB).trans h7⟩
theorem TbBox.new (w : World) (n lv ct sz : Nat) (f l : ByteArray) (le mo : Nat) (t : TypeId) : TbBox (w.alloc (.cells #[.int .u64 (n : Nat), .int .i64 (lv : Nat), .int .i64 (ct : Nat), .int .i64 (sz : Nat), .string f, .string l, .int .u64 (le : Nat), .int .u64 (mo : Nat)] t)) w.heap.size n lv ct sz f l le mo := by
  refine ⟨?_, ?_, ?_, ?_, ?_, ?_, ?_, ?_⟩ <;> (rw [World.cell?_alloc_new]; rfl)

theorem wrap_nat (n : Nat) (h : n < 18446744073709551616) : IntKind.u64.wrap (n : Int) = n := by
  rw [IntKind.wrap_u64]
  omega
theorem textl_two_length (f l : ByteArray) (hf : f.size ≤ 64) (hl : l.size ≤ 64) : (textl [f, l]).length ≤ 146 := by
  have := textl_length [f, l]
  simp only [suml, List.length_cons, List.length_nil] at this
  omega

set_option maxHeartbeats 8000000 in
theorem rowOf_nat (n lv ct sz le mo : Nat) (f l : ByteArray) (w : World) (hn : n < 18446744073709551616) (hlv : lv ≤ 9223372036854775807) (hct : ct ≤ 9223372036854775807) (hsz : sz ≤ 9223372036854775807) (hf : f.size ≤ 64) (hl : l.size ≤ 64) (hle : le < 18446744073709551616) (hmo : mo < 18446744073709551616) :
    Calls Try.prog 67 #[.agg #[.int .u64 (n : Nat), .int .i64 (lv : Nat), .int .i64 (ct : Nat), .int .i64 (sz : Nat), .string f, .string l, .int .u64 (le : Nat), .int .u64 (mo : Nat)]] w (Gives (.string ⟨(varl [n, lv, ct, sz, le, mo] ++ textl [f, l]).toArray⟩) w) := by
  obtain ⟨V, hV⟩ : ∃ V : ByteArray, V = ⟨(varl [n, lv, ct, sz, le, mo]).toArray⟩ := ⟨_, rfl⟩
  obtain ⟨T, hT⟩ : ∃ T : ByteArray, T = ⟨(textl [f, l]).toArray⟩ := ⟨_, rfl⟩
  have hVar : ∀ v W, SeesU W v [n, lv, ct, sz, le, mo] → Calls Try.prog 66 #[v] W (Gives (.string V) W) := fun v W h => by
    rw [hV]; exact var_any v _ W h (fun i => by match i with
                                                  | 0 => simpa using hn
                                                  | 1 => show lv < _; omega
                                                  | 2 => show ct < _; omega
                                                  | 3 => show sz < _; omega
                                                  | 4 => show le < _; omega
                                                  | 5 => show mo < _; omega
                                                  | i + 6 => simp) (by simp)
  have hText : ∀ v W, SeesS W v [f, l] → Calls Try.prog 88 #[v] W (Gives (.string T) W) := fun v W h => by
    rw [hT]; exact text_any v [f, l] W h (by simp) (by simp [suml]; omega)
  have hU : ∀ {w : World} {B : Nat}, w.heap[B]? = some (.cells #[.int .u64 (n : Nat), .int .u64 (lv : Nat), .int .u64 (ct : Nat), .int .u64 (sz : Nat), .int .u64 (le : Nat), .int .u64 (mo : Nat)] 28 (0, 0)) → SeesU w (.slice (some ⟨B, 0, none⟩) 6 6) [n, lv, ct, sz, le, mo] := fun h => seesU_heap h rfl (fun i hi => by
    match i, hi with
    | 0, _ => rfl
    | 1, _ => rfl
    | 2, _ => rfl
    | 3, _ => rfl
    | 4, _ => rfl
    | 5, _ => rfl)
  have HV1 : Hid (∀ W : World, Calls Try.prog 66 #[.slice (some ⟨W.heap.size, 0, none⟩) 6 6] (W.alloc (.cells #[.int .u64 (n : Nat), .int .u64 (lv : Nat), .int .u64 (ct : Nat), .int .u64 (sz : Nat), .int .u64 (le : Nat), .int .u64 (mo : Nat)] 28)).drew (Gives (.string V) (W.alloc (.cells #[.int .u64 (n : Nat), .int .u64 (lv : Nat), .int .u64 (ct : Nat), .int .u64 (sz : Nat), .int .u64 (le : Nat), .int .u64 (mo : Nat)] 28)).drew)) := Lib.hid fun W => hVar _ _ (hU (h1n _ _))
  have HV2 : Hid (∀ (W : World) (B : Obj), Calls Try.prog 66 #[.slice (some ⟨W.heap.size, 0, none⟩) 6 6] ((W.alloc (.cells #[.int .u64 (n : Nat), .int .u64 (lv : Nat), .int .u64 (ct : Nat), .int .u64 (sz : Nat), .int .u64 (le : Nat), .int .u64 (mo : Nat)] 28)).alloc B).drew (Gives (.string V) ((W.alloc (.cells #[.int .u64 (n : Nat), .int .u64 (lv : Nat), .int .u64 (ct : Nat), .int .u64 (sz : Nat), .int .u64 (le : Nat), .int .u64 (mo : Nat)] 28)).alloc B).drew)) := Lib.hid fun W B => hVar _ _ (hU (h2o _ _ _))
  have HV3 : Hid (∀ (W : World) (B : Obj), Calls Try.prog 66 #[.slice (some ⟨W.heap.size + 1, 0, none⟩) 6 6] ((W.alloc B).alloc (.cells #[.int .u64 (n : Nat), .int .u64 (lv : Nat), .int .u64 (ct : Nat), .int .u64 (sz : Nat), .int .u64 (le : Nat), .int .u64 (mo : Nat)] 28)).drew (Gives (.string V) ((W.alloc B).alloc (.cells #[.int .u64 (n : Nat), .int .u64 (lv : Nat), .int .u64 (ct : Nat), .int .u64 (sz : Nat), .int .u64 (le : Nat), .int .u64 (mo : Nat)] 28)).drew)) := Lib.hid fun W B => hVar _ _ (hU (h2n _ _ _))
  have HT1 : Hid (∀ W : World, Calls Try.prog 88 #[.slice (some ⟨W.heap.size, 0, none⟩) 2 2] (W.alloc (.cells #[.string f, .string l] 9)) (Gives (.string T) (W.alloc (.cells #[.string f, .string l] 9)))) := Lib.hid fun W => hText _ _ (sees_heap2 (heap_alloc_new _ _))
  have HT2 : Hid (∀ (W : World) (B : Obj) (w1 : World), Below ((W.alloc B).alloc (.cells #[.string f, .string l] 9)).drew.heap.size ((W.alloc B).alloc (.cells #[.string f, .string l] 9)).drew w1 → Calls Try.prog 88 #[.slice (some ⟨W.heap.size + 1, 0, none⟩) 2 2] w1 (Gives (.string T) w1)) := Lib.hid fun W B w1 hb => hText _ _ (sees_heap2 (kept_block (h2n _ _ _) hb))
  have HT3 : Hid (∀ (W : World) (B : Obj) (w1 : World), Below ((W.alloc (.cells #[.string f, .string l] 9)).alloc B).drew.heap.size ((W.alloc (.cells #[.string f, .string l] 9)).alloc B).drew w1 → Calls Try.prog 88 #[.slice (some ⟨W.heap.size, 0, none⟩) 2 2] w1 (Gives (.string T) w1)) := Lib.hid fun W B w1 hb => hText _ _ (sees_heap2 (kept_block (h2o _ _ _) hb))
  have HE : Hid ((⟨(varl [n, lv, ct, sz, le, mo] ++ textl [f, l]).toArray⟩ : ByteArray) = V ++ T) := by rw [hV, hT, mk_app]; exact Lib.hid rfl
  have hVs : V.size ≤ 54 := by rw [hV, size_mk]; exact varl_length [n, lv, ct, sz, le, mo]
  have hTs : T.size ≤ 146 := by rw [hT, size_mk]; exact textl_two_length f l hf hl
  have HADD : Hid (¬ 9223372036854775807 < V.size + T.size) := Lib.hid (by omega)
  have hw1 : IntKind.u64.wrap (lv : Int) = lv := wrap_nat _ (by omega)
  have hw2 : IntKind.u64.wrap (ct : Int) = ct := wrap_nat _ (by omega)
  have hw3 : IntKind.u64.wrap (sz : Int) = sz := wrap_nat _ (by omega)
  clear hV hT hVs hTs hVar hText hU hn hlv hct hsz hf hl hle hmo
  go_enter Try.func67, Try.ntmps67
  go_wp2_with fail
  have HB0 : Hid (Below w.heap.size w (w.alloc (.cells #[.int .u64 (n : Nat), .int .i64 (lv : Nat), .int .i64 (ct : Nat), .int .i64 (sz : Nat), .string f, .string l, .int .u64 (le : Nat), .int .u64 (mo : Nat)] 38))) := Lib.hid ((Below.refl _ _).alloc (Nat.le_refl _) _)
  have hbx : TbBox (w.alloc (.cells #[.int .u64 (n : Nat), .int .i64 (lv : Nat), .int .i64 (ct : Nat), .int .i64 (sz : Nat), .string f, .string l, .int .u64 (le : Nat), .int .u64 (mo : Nat)] 38)) w.heap.size n lv ct sz f l le mo := TbBox.new ..
  have hsz : w.heap.size < (w.alloc (.cells #[.int .u64 (n : Nat), .int .i64 (lv : Nat), .int .i64 (ct : Nat), .int .i64 (sz : Nat), .string f, .string l, .int .u64 (le : Nat), .int .u64 (mo : Nat)] 38)).heap.size := by simp
  generalize w.alloc (.cells #[.int .u64 (n : Nat), .int .i64 (lv : Nat), .int .i64 (ct : Nat), .int .i64 (sz : Nat), .string f, .string l, .int .u64 (le : Nat), .int .u64 (mo : Nat)] 38) = W at *
  have HK1 : Hid (∀ A, TbBox (W.alloc A).drew w.heap.size n lv ct sz f l le mo) := Lib.hid (fun A => hbx.of ((Below.refl W.heap.size W).alloc (Nat.le_refl _) _).drew hsz)
  have HK2 : Hid (∀ A B, TbBox ((W.alloc A).alloc B).drew w.heap.size n lv ct sz f l le mo) := Lib.hid (fun A B => hbx.of (Below.next_alloc ((Below.refl W.heap.size W).alloc (Nat.le_refl _) _) _).drew hsz)
  have HBX := Lib.hid hbx
  obtain ⟨g0, g1, g2, g3, g4, g5, g6, g7⟩ := hbx
  have hadd := HADD.out
  go_region_held3 (fun w' => TbBox w' w.heap.size n lv ct sz f l le mo)
    (first
      | exact HBX.out
      | exact HK1.out _
      | exact HK2.out _ _
      | go_keep
      | exact TbBox.of (HK1.out _) hb1 (by simp; omega)
      | exact TbBox.of (HK2.out _ _) hb1 (by simp; omega)
      | exact TbBox.of (by assumption) ((Below.refl _ _).alloc (Nat.le_refl _) _) (by have := hb1.size; simp at this; omega)
      | exact TbBox.of ⟨by assumption, by assumption, by assumption, by assumption, by assumption, by assumption, by assumption, by assumption⟩ ((Below.refl _ _).alloc (Nat.le_refl _) _) (by have := hb1.size; simp at this; omega)
      | exact TbBox.of ⟨by assumption, by assumption, by assumption, by assumption, by assumption, by assumption, by assumption, by assumption⟩ hb2 (by have := hb1.size; simp at this; simp; omega)
      | exact TbBox.of (by assumption) hb2 (by have := hb1.size; simp at this; simp; omega)
      | exact TbBox.of (TbBox.of (HK1.out _) hb1 (by simp; omega)) ((Below.refl _ _).alloc (Nat.le_refl _) _) (by have := hb1.size; simp at this; simp; omega))
    (first
      | (go_at_call 66; (with_reducible refine (HV1.out _).mono ?_); rintro e w1 ⟨rfl, hb1⟩)
      | (go_at_call 66; (with_reducible refine (HV2.out _ _).mono ?_); rintro e w1 ⟨rfl, hb1⟩)
      | (go_at_call 66; (with_reducible refine (HV3.out _ _).mono ?_); rintro e w1 ⟨rfl, hb1⟩)
      | (go_at_call 88; (with_reducible refine (HT1.out _).mono ?_); rintro e w2 ⟨rfl, hb2⟩)
      | (go_at_call 88; (with_reducible refine (HT2.out _ _ _ hb1).mono ?_); rintro e w2 ⟨rfl, hb2⟩)
      | (go_at_call 88; (with_reducible refine (HT3.out _ _ _ hb1).mono ?_); rintro e w2 ⟨rfl, hb2⟩))
  all_goals
    have HF : Hid (Below w.heap.size w w2) := by
      first
        | exact Lib.hid (below_one HB0.out hb1 hb2)
        | exact Lib.hid (below_two HB0.out hb1 hb2)
    clear hb1 hb2
    go_wp2_with fail
    go_ret
    rw [HE.out]
    exact ⟨rfl, HF.out⟩

/-- rowOf, of a table that may be. -/
theorem rowOf_any (t : Tbl) (w : World) (h : Ed.Fits t) :
    Calls Try.prog 67 #[tbV t] w (Gives (.string ⟨(Ed.tbRow t).toArray⟩) w) := by
  obtain ⟨h1, ⟨h2, h3⟩, ⟨h4, h5⟩, ⟨h6, h7⟩, h8, h9, h10, h11⟩ := h
  have e := rowOf_nat t.n t.level.toNat t.count.toNat t.size.toNat t.least t.most t.first t.last w h1 (by omega) (by omega) (by omega) h8 h9 h10 h11
  rw [Int.toNat_of_nonneg h2, Int.toNat_of_nonneg h4, Int.toNat_of_nonneg h6] at e
  exact e

end Go.Proofs.Ytbdoekogoiijeaa
