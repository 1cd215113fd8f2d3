/- The walk of cell.Read. -/
import Derived.Test.YtalmkgjinabceaaDoorCellD
import Derived.IntWalk
import Derived.Lib.QuoteBits
namespace Go.Proofs.YtalmkgjinabceaaDoor
open Go.RowKit
set_option linter.unusedSimpArgs false

/-- No cell. -/
def noV : Value := .tuple #[.agg #[.bool false, .bool false, .int .i64 0, .string ⟨#[]⟩], .bool false]

theorem and1 (q : Nat) (h : q < 256) : bits .and .u8 (q : Int) 1 = ((q % 2 : Nat) : Int) := by
  have := u8_and_nat q 1 h (by omega)
  rw [Nat.and_one_is_mod] at this
  exact this
theorem and_two : ∀ q, q < 256 → q &&& 2 = q / 2 % 2 * 2 := by decide +kernel
theorem and2 (q : Nat) (h : q < 256) : bits .and .u8 (q : Int) 2 = ((q / 2 % 2 * 2 : Nat) : Int) := by
  have := u8_and_nat q 2 h (by omega)
  rw [and_two q h] at this
  exact this
theorem or8 (a b : Nat) (ha : a < 256) (hb : b < 256) : bits .or .i64 (a : Int) ((b : Int) * 256) = (a : Int) + 256 * b := by
  have e : ((b : Int) * 256) = ((256 * b : Nat) : Int) := by omega
  rw [e]
  show IntKind.i64.wrap ((BitVec.ofInt 64 (a : Int) ||| BitVec.ofInt 64 ((256 * b : Nat) : Int)).toNat : Int) = _
  rw [BitVec.toNat_or, ofInt_u64 a (by omega), ofInt_u64 (256 * b) (by omega), Nat.or_comm, ← Nat.two_pow_add_eq_or_of_lt (i := 8) (by omega) b, Lib.wrap_i64_small _ (by omega)]
  omega

set_option maxHeartbeats 400000 in
theorem read_len (s : ByteArray) (w : World) (hn : ¬ s.size = 32) :
    Calls Tryd.prog 24 #[.string s] w (Gives noV w) := by
  have e1 : (!((s.size : Int) == 32)) = true := by simp; omega
  go_enter Tryd.func24, Tryd.ntmps24
  go_wp2_with fail
  exact bodyPost_ret (v := noV) (by simp [results, Tryd.results24, go_sem, noV]) rfl ⟨rfl, (Below.refl _ _).alloc (Nat.le_refl _) _⟩

set_option maxHeartbeats 400000 in
theorem read_great (s : ByteArray) (w : World) (hs : s.size = 32) (hn : 24 < (s[1]'(by omega)).toNat) :
    Calls Tryd.prog 24 #[.string s] w (Gives noV w) := by
  have h1 : ∀ w : World, (Instr.index 9 (.string s) (.int .i64 1)).run Tryd.prog w = .ok (.int .u8 (s[1]'(by omega)).toNat) w := index_byte s 1 (by omega)
  obtain ⟨B1, hB⟩ : ∃ B1, B1 = (s[1]'(by omega)).toNat := ⟨_, rfl⟩
  rw [← hB] at h1 hn
  have e1 : (!((s.size : Int) == 32)) = false := by simp; omega
  have e1' : ((s.size : Int) != 32) = false := e1
  clear hB hs
  go_enter Tryd.func24, Tryd.ntmps24
  go_wp2_with fail
  exact bodyPost_ret (v := noV) (by simp [results, Tryd.results24, go_sem, noV]) rfl ⟨rfl, (Below.refl _ _).alloc (Nat.le_refl _) _⟩

set_option maxRecDepth 100000 in
set_option maxHeartbeats 1000000 in
theorem read_may (s : ByteArray) (w : World) (hT : Tab w) (hs : s.size = 32) (B0 B1 B2 B3 : Nat)
    (h0 : ∀ w : World, (Instr.index 9 (.string s) (.int .i64 0)).run Tryd.prog w = .ok (.int .u8 B0) w) (h1 : ∀ w : World, (Instr.index 9 (.string s) (.int .i64 1)).run Tryd.prog w = .ok (.int .u8 B1) w)
    (h2 : ∀ w : World, (Instr.index 9 (.string s) (.int .i64 2)).run Tryd.prog w = .ok (.int .u8 B2) w) (h3 : ∀ w : World, (Instr.index 9 (.string s) (.int .i64 3)).run Tryd.prog w = .ok (.int .u8 B3) w)
    (hB1 : B1 ≤ 24) (hB2 : B2 < 256) (hB3 : B3 < 256) (f l : Bool) (hf : f = decide (B0 % 2 = 1)) (hl : l = decide (B0 / 2 % 2 = 1)) (x y : Int) (hx : bits .and .u8 (B0 : Int) 1 = x) (hy : bits .and .u8 (B0 : Int) 2 = y) (hx2 : (x != 0) = f) (hy2 : (y != 0) = l)
    (D : ByteArray) (hD : s.extract 4 (4 + B1) = D) (out : Value)
    (HO : Hid ((Cr.may ⟨f, l, (B2 : Int) + 256 * B3, D⟩ = true ∧ (⟨(Cr.mk ⟨f, l, (B2 : Int) + 256 * B3, D⟩).toArray⟩ : ByteArray) = s → out = .tuple #[.agg #[.bool f, .bool l, .int .i64 ((B2 : Int) + 256 * B3), .string D], .bool true]) ∧
      (¬ (Cr.may ⟨f, l, (B2 : Int) + 256 * B3, D⟩ = true ∧ (⟨(Cr.mk ⟨f, l, (B2 : Int) + 256 * B3, D⟩).toArray⟩ : ByteArray) = s) → out = noV))) :
    Calls Tryd.prog 24 #[.string s] w (Gives out w) := by
  have e1 : (!((s.size : Int) == 32)) = false := by simp; omega
  have e1' : ((s.size : Int) != 32) = false := e1
  have hor := or8 B2 B3 hB2 hB3
  have b32 : (4 : Int) + B1 ≤ (s.size : Int) := by omega
  have b4 : (4 : Int) ≤ 4 + (B1 : Int) := by omega
  have HS := Lib.hid hs; clear hs
  have HF := Lib.hid hf; have HL := Lib.hid hl
  have hsl : ∀ w : World, (Instr.slice 9 (.string s) (some (.int .i64 4)) (some (.int .i64 (4 + (B1 : Int)))) none).run Tryd.prog w = .ok (.string D) w := fun w => by
    rw [run_slice_string (P := Tryd.prog) w 9 s .i64 .i64 4 (4 + (B1 : Int)) Tryd.underlying9 (by omega) b4 b32, show (4 + (B1 : Int)).toNat = 4 + B1 by omega]
    exact congrArg (fun x => Result.ok (Value.string x) w) hD
  have HD := Lib.hid hD
  have hwr : IntKind.i64.wrap (4 + (B1 : Int)) = 4 + (B1 : Int) := IntWalk.i64_in _ (by omega)
  have hw1 : IntKind.i64.wrap (B1 : Int) = (B1 : Int) := IntWalk.i64_in _ (by omega)
  have hw2 : IntKind.i64.wrap (B2 : Int) = (B2 : Int) := IntWalk.i64_in _ (by omega)
  have hw3 : IntKind.i64.wrap (B3 : Int) = (B3 : Int) := IntWalk.i64_in _ (by omega)
  have hw4 : IntKind.i64.wrap ((B3 : Int) * 256) = (B3 : Int) * 256 := IntWalk.i64_in _ (by omega)
  have hDs : D.size ≤ 281474976710656 := by rw [← HD.out, ByteArray.size_extract]; omega
  have HDS := Lib.hid hDs
  clear hf hl hD hDs
  go_enter Tryd.func24, Tryd.ntmps24
  go_wp2_with fail
  refine wp_region_noPanic ?_
  refine wp_region_held_drew (S := fun _ => True) (by kernel_rfl) trivial (fun _ => ?_)
  refine wpAnyH_take (i := 0) (v := ?v0) rfl (by kernel_rfl) (by kernel_rfl) (by kernel_rfl) (fun _ _ _ h => h) (Or.inl ⟨by rfl, ?y0⟩) trivial ?_; case y0 => (intro w' _; go_simp; try with_reducible rfl)
  simp only [Act.put, List.setIfInBounds_toArray, List.set_cons_zero, List.set_cons_succ]
  refine wpAnyH_take (i := 1) (v := ?v1) rfl (by kernel_rfl) (by kernel_rfl) (by kernel_rfl) (fun _ _ _ h => h) (Or.inl ⟨by rfl, ?y1⟩) trivial ?_; case y1 => (intro w' _; go_simp; try with_reducible rfl)
  simp only [Act.put, List.setIfInBounds_toArray, List.set_cons_zero, List.set_cons_succ]
  refine wpAnyH_take (i := 2) (v := ?v2) rfl (by kernel_rfl) (by kernel_rfl) (by kernel_rfl) (fun _ _ _ h => h) (Or.inl ⟨by rfl, ?y2⟩) trivial ?_; case y2 => (intro w' _; go_simp; try with_reducible rfl)
  simp only [Act.put, List.setIfInBounds_toArray, List.set_cons_zero, List.set_cons_succ]
  refine wpAnyH_take (i := 3) (v := ?v3) rfl (by kernel_rfl) (by kernel_rfl) (by kernel_rfl) (fun _ _ _ h => h) (Or.inl ⟨by rfl, ?y3⟩) trivial ?_; case y3 => (intro w' _; go_simp; try with_reducible rfl)
  simp only [Act.put, List.setIfInBounds_toArray, List.set_cons_zero, List.set_cons_succ]
  refine wpAnyH_take (i := 4) (v := ?v4) rfl (by kernel_rfl) (by kernel_rfl) (by kernel_rfl) (fun _ _ _ h => h) (Or.inl ⟨by rfl, ?y4⟩) trivial ?_; case y4 => (intro w' _; go_simp; try with_reducible rfl)
  simp only [Act.put, List.setIfInBounds_toArray, List.set_cons_zero, List.set_cons_succ]
  refine wpAnyH_take (i := 5) (v := ?v5) rfl (by kernel_rfl) (by kernel_rfl) (by kernel_rfl) (fun _ _ _ h => h) (Or.inl ⟨by rfl, ?y5⟩) trivial ?_; case y5 => (intro w' _; go_simp; try with_reducible rfl)
  simp only [Act.put, List.setIfInBounds_toArray, List.set_cons_zero, List.set_cons_succ]
  refine wpAnyH_take (i := 6) (v := ?v6) rfl (by kernel_rfl) (by kernel_rfl) (by kernel_rfl) (fun _ _ _ h => h) (Or.inl ⟨by rfl, ?y6⟩) trivial ?_; case y6 => (intro w' _; go_simp; try with_reducible rfl)
  simp only [Act.put, List.setIfInBounds_toArray, List.set_cons_zero, List.set_cons_succ]
  refine wpAnyH_take (i := 7) (v := ?v7) rfl (by kernel_rfl) (by kernel_rfl) (by kernel_rfl) (fun _ _ _ h => h) (Or.inl ⟨by rfl, ?y7⟩) trivial ?_; case y7 => (intro w' _; go_simp; try with_reducible rfl)
  simp only [Act.put, List.setIfInBounds_toArray, List.set_cons_zero, List.set_cons_succ]
  refine wpAnyH_take (i := 8) (v := ?v8) rfl (by kernel_rfl) (by kernel_rfl) (by kernel_rfl) (fun _ _ _ h => h) (Or.inl ⟨by rfl, ?y8⟩) trivial ?_; case y8 => (intro w' _; go_simp; try with_reducible rfl)
  simp only [Act.put, List.setIfInBounds_toArray, List.set_cons_zero, List.set_cons_succ]
  refine wpAnyH_take (i := 9) (v := ?v9) rfl (by kernel_rfl) (by kernel_rfl) (by kernel_rfl) (fun _ _ _ h => h) (Or.inl ⟨by rfl, ?y9⟩) trivial ?_; case y9 => (intro w' _; go_simp; try with_reducible rfl)
  simp only [Act.put, List.setIfInBounds_toArray, List.set_cons_zero, List.set_cons_succ]
  refine wpAnyH_take (i := 10) (v := ?v10) rfl (by kernel_rfl) (by kernel_rfl) (by kernel_rfl) (fun _ _ _ h => h) (Or.inl ⟨by rfl, ?y10⟩) trivial ?_; case y10 => (intro w' _; go_simp; try with_reducible rfl)
  simp only [Act.put, List.setIfInBounds_toArray, List.set_cons_zero, List.set_cons_succ]
  refine wpAnyH_take (i := 11) (v := ?v11) rfl (by kernel_rfl) (by kernel_rfl) (by kernel_rfl) (fun _ _ _ h => h) (Or.inl ⟨by rfl, ?y11⟩) trivial ?_; case y11 => (intro w' _; go_simp; try with_reducible rfl)
  simp only [Act.put, List.setIfInBounds_toArray, List.set_cons_zero, List.set_cons_succ]
  refine wpAnyH_take (i := 12) (v := ?v12) rfl (by kernel_rfl) (by kernel_rfl) (by kernel_rfl) (fun _ _ _ h => h) (Or.inl ⟨by rfl, ?y12⟩) trivial ?_; case y12 => (intro w' _; go_simp; try with_reducible rfl)
  simp only [Act.put, List.setIfInBounds_toArray, List.set_cons_zero, List.set_cons_succ]
  refine wpAnyH_take (i := 13) (v := ?v13) rfl (by kernel_rfl) (by kernel_rfl) (by kernel_rfl) (fun _ _ _ h => h) (Or.inl ⟨by rfl, ?y13⟩) trivial ?_; case y13 => (intro w' _; go_simp; try with_reducible rfl)
  simp only [Act.put, List.setIfInBounds_toArray, List.set_cons_zero, List.set_cons_succ]
  refine wpAnyH_take (i := 14) (v := ?v14) rfl (by kernel_rfl) (by kernel_rfl) (by kernel_rfl) (fun _ _ _ h => h) (Or.inl ⟨by rfl, ?y14⟩) trivial ?_; case y14 => (intro w' _; go_simp; try with_reducible rfl)
  simp only [Act.put, List.setIfInBounds_toArray, List.set_cons_zero, List.set_cons_succ]
  refine wpAnyH_take (i := 15) (v := ?v15) rfl (by kernel_rfl) (by kernel_rfl) (by kernel_rfl) (fun _ _ _ h => h) (Or.inl ⟨by rfl, ?y15⟩) trivial ?_; case y15 => (intro w' _; go_simp; try with_reducible rfl)
  simp only [Act.put, List.setIfInBounds_toArray, List.set_cons_zero, List.set_cons_succ]
  refine wpAnyH_take (i := 16) (v := ?v16) rfl (by kernel_rfl) (by kernel_rfl) (by kernel_rfl) (fun _ _ _ h => h) (Or.inl ⟨by rfl, ?y16⟩) trivial ?_; case y16 => (intro w' _; go_simp; try with_reducible rfl)
  simp only [Act.put, List.setIfInBounds_toArray, List.set_cons_zero, List.set_cons_succ]
  refine wpAnyH_take (i := 17) (v := ?v17) rfl (by kernel_rfl) (by kernel_rfl) (by kernel_rfl) (fun _ _ _ h => h) (Or.inl ⟨by rfl, ?y17⟩) trivial ?_; case y17 => (intro w' _; go_simp; try with_reducible rfl)
  simp only [Act.put, List.setIfInBounds_toArray, List.set_cons_zero, List.set_cons_succ]
  refine wpAnyH_take (i := 18) (v := ?v18) rfl (by kernel_rfl) (by kernel_rfl) (by kernel_rfl) (fun _ _ _ h => h) (Or.inl ⟨by rfl, ?y18⟩) trivial ?_; case y18 => (intro w' _; go_simp; try with_reducible rfl)
  simp only [Act.put, List.setIfInBounds_toArray, List.set_cons_zero, List.set_cons_succ]
  refine wpAnyH_take (i := 19) (v := ?v19) rfl (by kernel_rfl) (by kernel_rfl) (by kernel_rfl) (fun _ _ _ h => h) (Or.inl ⟨by rfl, ?y19⟩) trivial ?_; case y19 => (intro w' _; go_simp; try with_reducible rfl)
  simp only [Act.put, List.setIfInBounds_toArray, List.set_cons_zero, List.set_cons_succ]
  refine wpAnyH_take (i := 20) (v := ?v20) rfl (by kernel_rfl) (by kernel_rfl) (by kernel_rfl) (fun _ _ _ h => h) (Or.inl ⟨by rfl, ?y20⟩) trivial ?_; case y20 => (intro w' _; go_simp; try with_reducible rfl)
  simp only [Act.put, List.setIfInBounds_toArray, List.set_cons_zero, List.set_cons_succ]
  refine wpAnyH_take (i := 21) (v := ?v21) rfl (by kernel_rfl) (by kernel_rfl) (by kernel_rfl) (fun _ _ _ h => h) (Or.inl ⟨by rfl, ?y21⟩) trivial ?_; case y21 => (intro w' _; go_simp; try with_reducible rfl)
  simp only [Act.put, List.setIfInBounds_toArray, List.set_cons_zero, List.set_cons_succ]
  refine wpAnyH_ready (rs := [22, 24]) (by kernel_rfl) (by simp) ?_
  refine AllReadyH.cons rfl (fun K hK => ?_) (AllReadyH.cons rfl (fun K hK => ?_) AllReadyH.nil)
  · go_simp
    refine (clone_any D _ HDS.out).mono ?_
    rintro e w2 ⟨rfl, hb2⟩
    go_wp2_with fail
    refine hK.out _ _ trivial (fun _ => ?_)
    clear hK K
    try simp only [Act.put, List.setIfInBounds_toArray, List.set_cons_zero, List.set_cons_succ]
    refine wpAnyH_take (i := 23) (v := ?v23) rfl (by kernel_rfl) (by kernel_rfl) (by kernel_rfl) (fun _ _ _ h => h) (Or.inl ⟨by rfl, ?y23⟩) trivial ?_
    case y23 => (intro w' _; go_simp; try with_reducible rfl)
    try simp only [Act.put, List.setIfInBounds_toArray, List.set_cons_zero, List.set_cons_succ]
    refine wpAnyH_ready (rs := [24]) (by kernel_rfl) (by simp) ?_
    refine AllReadyH.cons rfl (fun K hK => ?_) AllReadyH.nil
    go_simp
    refine hK.out _ _ trivial (fun _ => ?_)
    clear hK K
    try simp only [Act.put, List.setIfInBounds_toArray, List.set_cons_zero, List.set_cons_succ]
    refine wpAnyH_ready (rs := [25]) (by kernel_rfl) (by simp) ?_
    refine AllReadyH.cons rfl (fun K hK => ?_) AllReadyH.nil
    go_simp
    refine hK.out _ _ trivial (fun _ => ?_)
    clear hK K
    try simp only [Act.put, List.setIfInBounds_toArray, List.set_cons_zero, List.set_cons_succ]
    refine wpAnyH_done (by kernel_rfl) ?_ _
    refine NoPanic.normal ?_
    have hsz2 := hb2.size
    rw [heap_drew, World.size_alloc] at hsz2
    have h5 := heap_alloc_new w2 (.cells #[.bool f, .bool l, .int .i64 ((B2 : Int) + 256 * B3), .string D] 48)
    have hb1 : Below w.heap.size w (w.alloc (.cells #[.bool false, .bool false, .int .i64 0, .string ⟨#[]⟩] 48)).drew := ((Below.refl _ _).alloc (Nat.le_refl _) _).drew
    have hb5 : Below w.heap.size w (w2.alloc (.cells #[.bool f, .bool l, .int .i64 ((B2 : Int) + 256 * B3), .string D] 48)) := Below.next_alloc (Below.next hb1 hb2) _
    have hz5 : (w2.alloc (.cells #[.bool f, .bool l, .int .i64 ((B2 : Int) + 256 * B3), .string D] 48)).heap[w.heap.size]? = some (.cells #[.bool false, .bool false, .int .i64 0, .string ⟨#[]⟩] 48 (0, 0)) :=
      (Below.heap_alloc w2 _ _ (by omega)).trans ((hb2.block _ (by simp)).trans (heap_alloc_new w _))
    have hlt5 : w.heap.size < w2.heap.size := by omega
    generalize w2.alloc (.cells #[.bool f, .bool l, .int .i64 ((B2 : Int) + 256 * B3), .string D] 48) = w5 at *
    generalize w2.heap.size = p at *
    clear hb2 hsz2 hb1 hsl hwr hw1 hw2 hw3 hw4 h0 h1 h2 h3 hor hx hy hx2 hy2 b32 b4
    have hT5 := hT.below hb5
    have hp5 : p < w5.heap.size := (Array.getElem?_eq_some_iff.1 h5).1
    have H5 := Lib.hid h5; have HB5 := Lib.hid hb5; have HZ5 := Lib.hid hz5; have HT5 := Lib.hid hT5
    clear hb5 hz5 hT5
    have c0 : w5.cell? ⟨p, 0, none⟩ = some (.bool f) := cell_of_row w5 p 0 _ _ _ h5
    have c1 : w5.cell? ⟨p, 1, none⟩ = some (.bool l) := cell_of_row w5 p 1 _ _ _ h5
    have c2 : w5.cell? ⟨p, 2, none⟩ = some (.int .i64 ((B2 : Int) + 256 * B3)) := cell_of_row w5 p 2 _ _ _ h5
    have c3 : w5.cell? ⟨p, 3, none⟩ = some (.string D) := cell_of_row w5 p 3 _ _ _ h5
    clear h5
    go_wp2_with fail
    clear c0 c1 c2 c3
    by_cases hm : Cr.may ⟨f, l, (B2 : Int) + 256 * B3, D⟩ = true
    · have HM := Lib.hid hm; clear hm
      refine (make_yes f l _ D _ HT5.out HM.out).mono ?_
      rintro e w6 ⟨rfl, hb6⟩
      have H6 := hb6.block p hp5
      rw [H5.out] at H6
      have Z6 := hb6.block w.heap.size (by omega)
      rw [HZ5.out] at Z6
      have HB6 := Lib.hid (Below.next HB5.out hb6)
      clear hb6
      obtain ⟨R, hR⟩ : ∃ R : ByteArray, R = ⟨(Cr.mk ⟨f, l, (B2 : Int) + 256 * B3, D⟩).toArray⟩ := ⟨_, rfl⟩
      rw [← hR] at HO ⊢
      clear hR
      by_cases hq : R = s
      · subst hq
        have HOUT := Lib.hid (HO.out.1 ⟨HM.out, rfl⟩)
        have c0 : w6.cell? ⟨p, 0, none⟩ = some (.bool f) := cell_of_row w6 p 0 _ _ _ H6
        have c1 : w6.cell? ⟨p, 1, none⟩ = some (.bool l) := cell_of_row w6 p 1 _ _ _ H6
        have c2 : w6.cell? ⟨p, 2, none⟩ = some (.int .i64 ((B2 : Int) + 256 * B3)) := cell_of_row w6 p 2 _ _ _ H6
        have c3 : w6.cell? ⟨p, 3, none⟩ = some (.string D) := cell_of_row w6 p 3 _ _ _ H6
        have z0 : w6.cell? ⟨w.heap.size, 0, none⟩ = some (.bool false) := cell_of_row w6 w.heap.size 0 _ _ _ Z6
        have z1 : w6.cell? ⟨w.heap.size, 1, none⟩ = some (.bool false) := cell_of_row w6 w.heap.size 1 _ _ _ Z6
        have z2 : w6.cell? ⟨w.heap.size, 2, none⟩ = some (.int .i64 0) := cell_of_row w6 w.heap.size 2 _ _ _ Z6
        have z3 : w6.cell? ⟨w.heap.size, 3, none⟩ = some (.string ⟨#[]⟩) := cell_of_row w6 w.heap.size 3 _ _ _ Z6
        have zf : ∀ o, w6.frozen? ⟨w.heap.size, o, none⟩ = false := fun o => by simp [World.frozen?, Z6]
        have HH6 := Lib.hid H6; clear H6
        have HZ6 := Lib.hid Z6; clear Z6
        go_wp2_with fail
        rw [HOUT.out]
        refine bodyPost_ret (v := .tuple #[.agg #[.bool f, .bool l, .int .i64 ((B2 : Int) + 256 * B3), .string D], .bool true]) (by simp [results, Tryd.results24, go_sem, z0, z1, z2, z3]) rfl ⟨rfl, ?_⟩
        exact (((HB6.out.setCell (p := ⟨w.heap.size, 0, none⟩) (Nat.le_refl _) _).setCell (p := ⟨w.heap.size, 1, none⟩) (Nat.le_refl _) _).setCell (p := ⟨w.heap.size, 2, none⟩) (Nat.le_refl _) _).setCell (p := ⟨w.heap.size, 3, none⟩) (Nat.le_refl _) _
      · have HOUT := Lib.hid (HO.out.2 (fun h => hq h.2))
        have z0 : w6.cell? ⟨w.heap.size, 0, none⟩ = some (.bool false) := cell_of_row w6 w.heap.size 0 _ _ _ Z6
        have z1 : w6.cell? ⟨w.heap.size, 1, none⟩ = some (.bool false) := cell_of_row w6 w.heap.size 1 _ _ _ Z6
        have z2 : w6.cell? ⟨w.heap.size, 2, none⟩ = some (.int .i64 0) := cell_of_row w6 w.heap.size 2 _ _ _ Z6
        have z3 : w6.cell? ⟨w.heap.size, 3, none⟩ = some (.string ⟨#[]⟩) := cell_of_row w6 w.heap.size 3 _ _ _ Z6
        have zf : ∀ o, w6.frozen? ⟨w.heap.size, o, none⟩ = false := fun o => by simp [World.frozen?, Z6]
        have HH6 := Lib.hid H6; clear H6
        have HZ6 := Lib.hid Z6; clear Z6
        have q0 : ¬ R.toList = s.toList := fun e => hq (str_eq e)
        have q1 : (R.toList == s.toList) = false := by rw [beq_eq_false_iff_ne]; exact q0
        have q2 : (R.toList != s.toList) = true := by rw [bne, q1]; rfl
        clear hq
        go_wp2_with fail
        rw [HOUT.out]
        refine bodyPost_ret (v := noV) (by simp [results, Tryd.results24, go_sem, noV, z0, z1, z2, z3]) rfl ⟨rfl, ?_⟩
        exact (((HB6.out.setCell (p := ⟨w.heap.size, 0, none⟩) (Nat.le_refl _) _).setCell (p := ⟨w.heap.size, 1, none⟩) (Nat.le_refl _) _).setCell (p := ⟨w.heap.size, 2, none⟩) (Nat.le_refl _) _).setCell (p := ⟨w.heap.size, 3, none⟩) (Nat.le_refl _) _
    · have HOUT := Lib.hid (HO.out.2 (fun h => hm h.1))
      have HM := Lib.hid (Bool.eq_false_iff.2 hm); clear hm
      refine (make_no f l _ D _ (by have := HDS.out; omega) HM.out).mono ?_
      rintro e w6 ⟨rfl, hb6⟩
      have Z6 := hb6.block w.heap.size (by omega)
      rw [HZ5.out] at Z6
      have HB6 := Lib.hid (Below.next HB5.out hb6)
      clear hb6
      have z0 : w6.cell? ⟨w.heap.size, 0, none⟩ = some (.bool false) := cell_of_row w6 w.heap.size 0 _ _ _ Z6
      have z1 : w6.cell? ⟨w.heap.size, 1, none⟩ = some (.bool false) := cell_of_row w6 w.heap.size 1 _ _ _ Z6
      have z2 : w6.cell? ⟨w.heap.size, 2, none⟩ = some (.int .i64 0) := cell_of_row w6 w.heap.size 2 _ _ _ Z6
      have z3 : w6.cell? ⟨w.heap.size, 3, none⟩ = some (.string ⟨#[]⟩) := cell_of_row w6 w.heap.size 3 _ _ _ Z6
      have zf : ∀ o, w6.frozen? ⟨w.heap.size, o, none⟩ = false := fun o => by simp [World.frozen?, Z6]
      have HZ6 := Lib.hid Z6; clear Z6
      go_wp2_with fail
      rw [HOUT.out]
      refine bodyPost_ret (v := noV) (by simp [results, Tryd.results24, go_sem, noV, z0, z1, z2, z3]) rfl ⟨rfl, ?_⟩
      exact (((HB6.out.setCell (p := ⟨w.heap.size, 0, none⟩) (Nat.le_refl _) _).setCell (p := ⟨w.heap.size, 1, none⟩) (Nat.le_refl _) _).setCell (p := ⟨w.heap.size, 2, none⟩) (Nat.le_refl _) _).setCell (p := ⟨w.heap.size, 3, none⟩) (Nat.le_refl _) _
  · go_simp
    refine hK.out _ _ trivial (fun _ => ?_)
    clear hK K
    try simp only [Act.put, List.setIfInBounds_toArray, List.set_cons_zero, List.set_cons_succ]
    refine wpAnyH_ready (rs := [22]) (by kernel_rfl) (by simp) ?_
    refine AllReadyH.cons rfl (fun K hK => ?_) AllReadyH.nil
    go_simp
    refine (clone_any D _ HDS.out).mono ?_
    rintro e w2 ⟨rfl, hb2⟩
    go_wp2_with fail
    refine hK.out _ _ trivial (fun _ => ?_)
    clear hK K
    try simp only [Act.put, List.setIfInBounds_toArray, List.set_cons_zero, List.set_cons_succ]
    refine wpAnyH_take (i := 23) (v := ?v23b) rfl (by kernel_rfl) (by kernel_rfl) (by kernel_rfl) (fun _ _ _ h => h) (Or.inl ⟨by rfl, ?y23b⟩) trivial ?_
    case y23b => (intro w' _; go_simp; try with_reducible rfl)
    try simp only [Act.put, List.setIfInBounds_toArray, List.set_cons_zero, List.set_cons_succ]
    refine wpAnyH_ready (rs := [25]) (by kernel_rfl) (by simp) ?_
    refine AllReadyH.cons rfl (fun K hK => ?_) AllReadyH.nil
    obtain ⟨hc2, hf2⟩ := bcell hb2
    go_simp
    refine hK.out _ _ trivial (fun _ => ?_)
    clear hK K hc2 hf2
    try simp only [Act.put, List.setIfInBounds_toArray, List.set_cons_zero, List.set_cons_succ]
    refine wpAnyH_done (by kernel_rfl) ?_ _
    refine NoPanic.normal ?_
    have hsz2 := hb2.size
    rw [heap_drew, World.size_alloc, World.size_alloc] at hsz2
    have hb1 : Below w.heap.size w ((w.alloc (.cells #[.bool false, .bool false, .int .i64 0, .string ⟨#[]⟩] 48)).alloc (.cells #[.bool false, .bool false, .int .i64 0, .string ⟨#[]⟩] 48)).drew := (Below.next_alloc ((Below.refl _ _).alloc (Nat.le_refl _) _) _).drew
    have hb3 : Below w.heap.size w w2 := Below.next hb1 hb2
    have hB2 : w2.heap[w.heap.size + 1]? = some (.cells #[.bool false, .bool false, .int .i64 0, .string ⟨#[]⟩] 48 (0, 0)) := (hb2.block _ (by simp)).trans (heap_alloc2_new w _ _)
    have hz2 : w2.heap[w.heap.size]? = some (.cells #[.bool false, .bool false, .int .i64 0, .string ⟨#[]⟩] 48 (0, 0)) := (hb2.block _ (by simp; omega)).trans (heap_alloc2_old w _ _)
    have h5 : ((((w2.setCell ⟨w.heap.size + 1, 0, none⟩ (.bool f)).setCell ⟨w.heap.size + 1, 1, none⟩ (.bool l)).setCell ⟨w.heap.size + 1, 2, none⟩ (.int .i64 ((B2 : Int) + 256 * B3))).setCell ⟨w.heap.size + 1, 3, none⟩ (.string D)).heap[w.heap.size + 1]? = some (.cells #[.bool f, .bool l, .int .i64 ((B2 : Int) + 256 * B3), .string D] 48 (0, 0)) :=
      Lib.heap_setCell_same (i := 3) (Lib.heap_setCell_same (i := 2) (Lib.heap_setCell_same (i := 1) (Lib.heap_setCell_same (i := 0) hB2 _) _) _) _
    have hz5 : ((((w2.setCell ⟨w.heap.size + 1, 0, none⟩ (.bool f)).setCell ⟨w.heap.size + 1, 1, none⟩ (.bool l)).setCell ⟨w.heap.size + 1, 2, none⟩ (.int .i64 ((B2 : Int) + 256 * B3))).setCell ⟨w.heap.size + 1, 3, none⟩ (.string D)).heap[w.heap.size]? = some (.cells #[.bool false, .bool false, .int .i64 0, .string ⟨#[]⟩] 48 (0, 0)) := by
      rw [heap_setCell_other _ _ _ _ (by simp), heap_setCell_other _ _ _ _ (by simp), heap_setCell_other _ _ _ _ (by simp), heap_setCell_other _ _ _ _ (by simp)]; exact hz2
    have hb5 : Below w.heap.size w ((((w2.setCell ⟨w.heap.size + 1, 0, none⟩ (.bool f)).setCell ⟨w.heap.size + 1, 1, none⟩ (.bool l)).setCell ⟨w.heap.size + 1, 2, none⟩ (.int .i64 ((B2 : Int) + 256 * B3))).setCell ⟨w.heap.size + 1, 3, none⟩ (.string D)) :=
      (((hb3.setCell (p := ⟨w.heap.size + 1, 0, none⟩) (by simp) _).setCell (p := ⟨w.heap.size + 1, 1, none⟩) (by simp) _).setCell (p := ⟨w.heap.size + 1, 2, none⟩) (by simp) _).setCell (p := ⟨w.heap.size + 1, 3, none⟩) (by simp) _
    have hlt5 : w.heap.size < w.heap.size + 1 := by omega
    generalize (((w2.setCell ⟨w.heap.size + 1, 0, none⟩ (.bool f)).setCell ⟨w.heap.size + 1, 1, none⟩ (.bool l)).setCell ⟨w.heap.size + 1, 2, none⟩ (.int .i64 ((B2 : Int) + 256 * B3))).setCell ⟨w.heap.size + 1, 3, none⟩ (.string D) = w5 at *
    generalize w.heap.size + 1 = p at *
    clear hb3 hB2 hz2
    clear hb2 hsz2 hb1 hsl hwr hw1 hw2 hw3 hw4 h0 h1 h2 h3 hor hx hy hx2 hy2 b32 b4
    have hT5 := hT.below hb5
    have hp5 : p < w5.heap.size := (Array.getElem?_eq_some_iff.1 h5).1
    have H5 := Lib.hid h5; have HB5 := Lib.hid hb5; have HZ5 := Lib.hid hz5; have HT5 := Lib.hid hT5
    clear hb5 hz5 hT5
    have c0 : w5.cell? ⟨p, 0, none⟩ = some (.bool f) := cell_of_row w5 p 0 _ _ _ h5
    have c1 : w5.cell? ⟨p, 1, none⟩ = some (.bool l) := cell_of_row w5 p 1 _ _ _ h5
    have c2 : w5.cell? ⟨p, 2, none⟩ = some (.int .i64 ((B2 : Int) + 256 * B3)) := cell_of_row w5 p 2 _ _ _ h5
    have c3 : w5.cell? ⟨p, 3, none⟩ = some (.string D) := cell_of_row w5 p 3 _ _ _ h5
    clear h5
    go_wp2_with fail
    clear c0 c1 c2 c3
    by_cases hm : Cr.may ⟨f, l, (B2 : Int) + 256 * B3, D⟩ = true
    · have HM := Lib.hid hm; clear hm
      refine (make_yes f l _ D _ HT5.out HM.out).mono ?_
      rintro e w6 ⟨rfl, hb6⟩
      have H6 := hb6.block p hp5
      rw [H5.out] at H6
      have Z6 := hb6.block w.heap.size (by omega)
      rw [HZ5.out] at Z6
      have HB6 := Lib.hid (Below.next HB5.out hb6)
      clear hb6
      obtain ⟨R, hR⟩ : ∃ R : ByteArray, R = ⟨(Cr.mk ⟨f, l, (B2 : Int) + 256 * B3, D⟩).toArray⟩ := ⟨_, rfl⟩
      rw [← hR] at HO ⊢
      clear hR
      by_cases hq : R = s
      · subst hq
        have HOUT := Lib.hid (HO.out.1 ⟨HM.out, rfl⟩)
        have c0 : w6.cell? ⟨p, 0, none⟩ = some (.bool f) := cell_of_row w6 p 0 _ _ _ H6
        have c1 : w6.cell? ⟨p, 1, none⟩ = some (.bool l) := cell_of_row w6 p 1 _ _ _ H6
        have c2 : w6.cell? ⟨p, 2, none⟩ = some (.int .i64 ((B2 : Int) + 256 * B3)) := cell_of_row w6 p 2 _ _ _ H6
        have c3 : w6.cell? ⟨p, 3, none⟩ = some (.string D) := cell_of_row w6 p 3 _ _ _ H6
        have z0 : w6.cell? ⟨w.heap.size, 0, none⟩ = some (.bool false) := cell_of_row w6 w.heap.size 0 _ _ _ Z6
        have z1 : w6.cell? ⟨w.heap.size, 1, none⟩ = some (.bool false) := cell_of_row w6 w.heap.size 1 _ _ _ Z6
        have z2 : w6.cell? ⟨w.heap.size, 2, none⟩ = some (.int .i64 0) := cell_of_row w6 w.heap.size 2 _ _ _ Z6
        have z3 : w6.cell? ⟨w.heap.size, 3, none⟩ = some (.string ⟨#[]⟩) := cell_of_row w6 w.heap.size 3 _ _ _ Z6
        have zf : ∀ o, w6.frozen? ⟨w.heap.size, o, none⟩ = false := fun o => by simp [World.frozen?, Z6]
        have HH6 := Lib.hid H6; clear H6
        have HZ6 := Lib.hid Z6; clear Z6
        go_wp2_with fail
        rw [HOUT.out]
        refine bodyPost_ret (v := .tuple #[.agg #[.bool f, .bool l, .int .i64 ((B2 : Int) + 256 * B3), .string D], .bool true]) (by simp [results, Tryd.results24, go_sem, z0, z1, z2, z3]) rfl ⟨rfl, ?_⟩
        exact (((HB6.out.setCell (p := ⟨w.heap.size, 0, none⟩) (Nat.le_refl _) _).setCell (p := ⟨w.heap.size, 1, none⟩) (Nat.le_refl _) _).setCell (p := ⟨w.heap.size, 2, none⟩) (Nat.le_refl _) _).setCell (p := ⟨w.heap.size, 3, none⟩) (Nat.le_refl _) _
      · have HOUT := Lib.hid (HO.out.2 (fun h => hq h.2))
        have z0 : w6.cell? ⟨w.heap.size, 0, none⟩ = some (.bool false) := cell_of_row w6 w.heap.size 0 _ _ _ Z6
        have z1 : w6.cell? ⟨w.heap.size, 1, none⟩ = some (.bool false) := cell_of_row w6 w.heap.size 1 _ _ _ Z6
        have z2 : w6.cell? ⟨w.heap.size, 2, none⟩ = some (.int .i64 0) := cell_of_row w6 w.heap.size 2 _ _ _ Z6
        have z3 : w6.cell? ⟨w.heap.size, 3, none⟩ = some (.string ⟨#[]⟩) := cell_of_row w6 w.heap.size 3 _ _ _ Z6
        have zf : ∀ o, w6.frozen? ⟨w.heap.size, o, none⟩ = false := fun o => by simp [World.frozen?, Z6]
        have HH6 := Lib.hid H6; clear H6
        have HZ6 := Lib.hid Z6; clear Z6
        have q0 : ¬ R.toList = s.toList := fun e => hq (str_eq e)
        have q1 : (R.toList == s.toList) = false := by rw [beq_eq_false_iff_ne]; exact q0
        have q2 : (R.toList != s.toList) = true := by rw [bne, q1]; rfl
        clear hq
        go_wp2_with fail
        rw [HOUT.out]
        refine bodyPost_ret (v := noV) (by simp [results, Tryd.results24, go_sem, noV, z0, z1, z2, z3]) rfl ⟨rfl, ?_⟩
        exact (((HB6.out.setCell (p := ⟨w.heap.size, 0, none⟩) (Nat.le_refl _) _).setCell (p := ⟨w.heap.size, 1, none⟩) (Nat.le_refl _) _).setCell (p := ⟨w.heap.size, 2, none⟩) (Nat.le_refl _) _).setCell (p := ⟨w.heap.size, 3, none⟩) (Nat.le_refl _) _
    · have HOUT := Lib.hid (HO.out.2 (fun h => hm h.1))
      have HM := Lib.hid (Bool.eq_false_iff.2 hm); clear hm
      refine (make_no f l _ D _ (by have := HDS.out; omega) HM.out).mono ?_
      rintro e w6 ⟨rfl, hb6⟩
      have Z6 := hb6.block w.heap.size (by omega)
      rw [HZ5.out] at Z6
      have HB6 := Lib.hid (Below.next HB5.out hb6)
      clear hb6
      have z0 : w6.cell? ⟨w.heap.size, 0, none⟩ = some (.bool false) := cell_of_row w6 w.heap.size 0 _ _ _ Z6
      have z1 : w6.cell? ⟨w.heap.size, 1, none⟩ = some (.bool false) := cell_of_row w6 w.heap.size 1 _ _ _ Z6
      have z2 : w6.cell? ⟨w.heap.size, 2, none⟩ = some (.int .i64 0) := cell_of_row w6 w.heap.size 2 _ _ _ Z6
      have z3 : w6.cell? ⟨w.heap.size, 3, none⟩ = some (.string ⟨#[]⟩) := cell_of_row w6 w.heap.size 3 _ _ _ Z6
      have zf : ∀ o, w6.frozen? ⟨w.heap.size, o, none⟩ = false := fun o => by simp [World.frozen?, Z6]
      have HZ6 := Lib.hid Z6; clear Z6
      go_wp2_with fail
      rw [HOUT.out]
      refine bodyPost_ret (v := noV) (by simp [results, Tryd.results24, go_sem, noV, z0, z1, z2, z3]) rfl ⟨rfl, ?_⟩
      exact (((HB6.out.setCell (p := ⟨w.heap.size, 0, none⟩) (Nat.le_refl _) _).setCell (p := ⟨w.heap.size, 1, none⟩) (Nat.le_refl _) _).setCell (p := ⟨w.heap.size, 2, none⟩) (Nat.le_refl _) _).setCell (p := ⟨w.heap.size, 3, none⟩) (Nat.le_refl _) _

/-- What Read tells, as a value. -/
def rdV (s : ByteArray) : Value := match Cr.rd s.data.toList with
  | some c => .tuple #[clV c, .bool true]
  | none => noV

theorem getD_byte (s : ByteArray) (i : Nat) (h : i < s.size) : s.data.toList.getD i 0 = s[i] := by
  rw [List.getD_eq_getElem?_getD, List.getElem?_eq_getElem (by rw [Cr.size_list]; exact h)]; rfl

theorem read_any (s : ByteArray) (w : World) (hT : Tab w) : Calls Tryd.prog 24 #[.string s] w (Gives (rdV s) w) := by
  by_cases hs : s.size = 32
  · by_cases h1 : 24 < (s[1]'(by omega)).toNat
    · have e : rdV s = noV := by
        unfold rdV Cr.rd
        rw [if_neg]
        rw [getD_byte s 1 (by omega)]
        omega
      rw [e]; exact read_great s w hs h1
    · have hm0 := (s[0]'(by omega)).toNat_lt
      have hm2 := (s[2]'(by omega)).toNat_lt
      have hm3 := (s[3]'(by omega)).toNat_lt
      have hdec : Cr.dec s.data.toList = ⟨decide ((s[0]'(by omega)).toNat % 2 = 1), decide ((s[0]'(by omega)).toNat / 2 % 2 = 1), ((s[2]'(by omega)).toNat : Int) + (256 : Int) * ((s[3]'(by omega)).toNat : Int), s.extract 4 (4 + (s[1]'(by omega)).toNat)⟩ := by
        unfold Cr.dec
        rw [getD_byte s 0 (by omega), getD_byte s 1 (by omega), getD_byte s 2 (by omega), getD_byte s 3 (by omega)]
        refine Cr.Cl.eq rfl rfl rfl ?_
        apply ByteArray.ext
        apply Array.toList_inj.1
        show _ = (s.extract 4 (4 + (s[1]'(by omega)).toNat)).data.toList
        rw [Lib.extract_data, List.toList_toArray, Nat.add_sub_cancel_left]
      refine read_may s w hT hs (s[0]'(by omega)).toNat (s[1]'(by omega)).toNat (s[2]'(by omega)).toNat (s[3]'(by omega)).toNat (index_byte s 0 (by omega)) (index_byte s 1 (by omega)) (index_byte s 2 (by omega)) (index_byte s 3 (by omega)) (by omega) (by omega) (by omega)
        (Cr.dec s.data.toList).first (Cr.dec s.data.toList).last (by rw [hdec]) (by rw [hdec]) _ _ (and1 _ (by omega)) (and2 _ (by omega)) ?_ ?_ (Cr.dec s.data.toList).data (by rw [hdec]) (rdV s) ?_
      · rw [hdec]; dsimp only
        generalize (s[0]'(by omega)).toNat = b
        rcases Nat.mod_two_eq_zero_or_one b with h | h <;> rw [h] <;> rfl
      · rw [hdec]; dsimp only
        generalize (s[0]'(by omega)).toNat = b
        rcases Nat.mod_two_eq_zero_or_one (b / 2) with h | h <;> rw [h] <;> rfl
      · have hn : ((s[2]'(by omega)).toNat : Int) + (256 : Int) * ((s[3]'(by omega)).toNat : Int) = (Cr.dec s.data.toList).num := by rw [hdec]
        rw [hn]
        clear hn
        show Hid ((Cr.may (Cr.dec s.data.toList) = true ∧ (⟨(Cr.mk (Cr.dec s.data.toList)).toArray⟩ : ByteArray) = s → rdV s = .tuple #[clV (Cr.dec s.data.toList), .bool true]) ∧ (¬ (Cr.may (Cr.dec s.data.toList) = true ∧ (⟨(Cr.mk (Cr.dec s.data.toList)).toArray⟩ : ByteArray) = s) → rdV s = noV))
        have hk : ((⟨(Cr.mk (Cr.dec s.data.toList)).toArray⟩ : ByteArray) = s) ↔ Cr.mk (Cr.dec s.data.toList) = s.data.toList := by
          refine ⟨fun h => congrArg (fun x : ByteArray => x.data.toList) h, fun h => by rw [h]⟩
        rw [hk]
        have hl : s.data.toList.length = 32 := by rw [Cr.size_list]; exact hs
        refine Lib.hid ⟨fun h => ?_, fun h => ?_⟩
        · unfold rdV Cr.rd
          rw [if_pos ⟨hl, by rw [getD_byte s 1 (by omega)]; omega, h.1, h.2⟩]
        · unfold rdV Cr.rd
          rw [if_neg (fun hc => h ⟨hc.2.2.1, hc.2.2.2⟩)]
  · have e : rdV s = noV := by
      unfold rdV
      rw [Cr.rd_none (by rw [Cr.size_list]; exact hs)]
    rw [e]; exact read_len s w hs

end Go.Proofs.YtalmkgjinabceaaDoor
