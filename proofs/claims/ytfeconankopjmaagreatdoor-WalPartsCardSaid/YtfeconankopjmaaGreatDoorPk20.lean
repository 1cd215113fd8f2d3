/- Texts on the program's own functions, several in one: CellE, FrA, FrB, FrC, FrD. -/
import Derived.Test.YtfeconankopjmaaGreatDoorPk19
import Derived.IntWalk
import Derived.Lib.QuoteBits
import Derived.Test.YtfeconankopjmaaGreatDoorPk1
import Derived.Test.YtfeconankopjmaaGreatDoorPk9

/- The walk of cell.Read. -/
namespace Go.Proofs.YtfeconankopjmaaGreatDoor
open Go.RowKit
set_option linter.unusedSimpArgs false

/-- No cell. -/
def noV : Value := .tuple #[.agg #[.bool false, .bool false, .int .i64 0, .string ⟨#[]⟩], .bool false]

theorem and1 (q : Nat) (h : q < 256) : bits .and .u8 (q : Int) 1 = ((q % 2 : Nat) : Int) := by
  have := u8_and_nat q 1 h (by omega)
  rw [Nat.and_one_is_mod] at this
  exact this
theorem and_two : ∀ q, q < 256 → q &&& 2 = q / 2 % 2 * 2 := by decide +kernel
theorem and2 (q : Nat) (h : q < 256) : bits .and .u8 (q : Int) 2 = ((q / 2 % 2 * 2 : Nat) : Int) := by
  have := u8_and_nat q 2 h (by omega)
  rw [and_two q h] at this
  exact this
theorem or8 (a b : Nat) (ha : a < 256) (hb : b < 256) : bits .or .i64 (a : Int) ((b : Int) * 256) = (a : Int) + 256 * b := by
  have e : ((b : Int) * 256) = ((256 * b : Nat) : Int) := by omega
  rw [e]
  show IntKind.i64.wrap ((BitVec.ofInt 64 (a : Int) ||| BitVec.ofInt 64 ((256 * b : Nat) : Int)).toNat : Int) = _
  rw [BitVec.toNat_or, ofInt_u64 a (by omega), ofInt_u64 (256 * b) (by omega), Nat.or_comm, ← Nat.two_pow_add_eq_or_of_lt (i := 8) (by omega) b, Lib.wrap_i64_small _ (by omega)]
  omega

set_option maxHeartbeats 400000 in
theorem read_len (s : ByteArray) (w : World) (hn : ¬ s.size = 32) :
    Calls Tryz.prog 184 #[.string s] w (Gives noV w) := by
  have e1 : (!((s.size : Int) == 32)) = true := by simp; omega
  go_enter Tryz.func184, Tryz.ntmps184
  go_wp2_with fail
  exact bodyPost_ret (v := noV) (by simp [results, Tryz.results184, go_sem, noV]) rfl ⟨rfl, (Below.refl _ _).alloc (Nat.le_refl _) _⟩

set_option maxHeartbeats 400000 in
theorem read_great (s : ByteArray) (w : World) (hs : s.size = 32) (hn : 24 < (s[1]'(by omega)).toNat) :
    Calls Tryz.prog 184 #[.string s] w (Gives noV w) := by
  have h1 : ∀ w : World, (Instr.index 9 (.string s) (.int .i64 1)).run Tryz.prog w = .ok (.int .u8 (s[1]'(by omega)).toNat) w := index_byte s 1 (by omega)
  obtain ⟨B1, hB⟩ : ∃ B1, B1 = (s[1]'(by omega)).toNat := ⟨_, rfl⟩
  rw [← hB] at h1 hn
  have e1 : (!((s.size : Int) == 32)) = false := by simp; omega
  have e1' : ((s.size : Int) != 32) = false := e1
  clear hB hs
  go_enter Tryz.func184, Tryz.ntmps184
  go_wp2_with fail
  exact bodyPost_ret (v := noV) (by simp [results, Tryz.results184, go_sem, noV]) rfl ⟨rfl, (Below.refl _ _).alloc (Nat.le_refl _) _⟩

set_option maxRecDepth 100000 in
set_option maxHeartbeats 1000000 in
theorem read_may (s : ByteArray) (w : World) (hT : Tab w) (hs : s.size = 32) (B0 B1 B2 B3 : Nat)
    (h0 : ∀ w : World, (Instr.index 9 (.string s) (.int .i64 0)).run Tryz.prog w = .ok (.int .u8 B0) w) (h1 : ∀ w : World, (Instr.index 9 (.string s) (.int .i64 1)).run Tryz.prog w = .ok (.int .u8 B1) w)
    (h2 : ∀ w : World, (Instr.index 9 (.string s) (.int .i64 2)).run Tryz.prog w = .ok (.int .u8 B2) w) (h3 : ∀ w : World, (Instr.index 9 (.string s) (.int .i64 3)).run Tryz.prog w = .ok (.int .u8 B3) w)
    (hB1 : B1 ≤ 24) (hB2 : B2 < 256) (hB3 : B3 < 256) (f l : Bool) (hf : f = decide (B0 % 2 = 1)) (hl : l = decide (B0 / 2 % 2 = 1)) (x y : Int) (hx : bits .and .u8 (B0 : Int) 1 = x) (hy : bits .and .u8 (B0 : Int) 2 = y) (hx2 : (x != 0) = f) (hy2 : (y != 0) = l)
    (D : ByteArray) (hD : s.extract 4 (4 + B1) = D) (out : Value)
    (HO : Hid ((Cr.may ⟨f, l, (B2 : Int) + 256 * B3, D⟩ = true ∧ (⟨(Cr.mk ⟨f, l, (B2 : Int) + 256 * B3, D⟩).toArray⟩ : ByteArray) = s → out = .tuple #[.agg #[.bool f, .bool l, .int .i64 ((B2 : Int) + 256 * B3), .string D], .bool true]) ∧
      (¬ (Cr.may ⟨f, l, (B2 : Int) + 256 * B3, D⟩ = true ∧ (⟨(Cr.mk ⟨f, l, (B2 : Int) + 256 * B3, D⟩).toArray⟩ : ByteArray) = s) → out = noV))) :
    Calls Tryz.prog 184 #[.string s] w (Gives out w) := by
  have e1 : (!((s.size : Int) == 32)) = false := by simp; omega
  have e1' : ((s.size : Int) != 32) = false := e1
  have hor := or8 B2 B3 hB2 hB3
  have b32 : (4 : Int) + B1 ≤ (s.size : Int) := by omega
  have b4 : (4 : Int) ≤ 4 + (B1 : Int) := by omega
  have HS := Lib.hid hs; clear hs
  have HF := Lib.hid hf; have HL := Lib.hid hl
  have hsl : ∀ w : World, (Instr.slice 9 (.string s) (some (.int .i64 4)) (some (.int .i64 (4 + (B1 : Int)))) none).run Tryz.prog w = .ok (.string D) w := fun w => by
    rw [run_slice_string (P := Tryz.prog) w 9 s .i64 .i64 4 (4 + (B1 : Int)) Tryz.underlying9 (by omega) b4 b32, show (4 + (B1 : Int)).toNat = 4 + B1 by omega]
    exact congrArg (fun x => Result.ok (Value.string x) w) hD
  have HD := Lib.hid hD
  have hwr : IntKind.i64.wrap (4 + (B1 : Int)) = 4 + (B1 : Int) := IntWalk.i64_in _ (by omega)
  have hw1 : IntKind.i64.wrap (B1 : Int) = (B1 : Int) := IntWalk.i64_in _ (by omega)
  have hw2 : IntKind.i64.wrap (B2 : Int) = (B2 : Int) := IntWalk.i64_in _ (by omega)
  have hw3 : IntKind.i64.wrap (B3 : Int) = (B3 : Int) := IntWalk.i64_in _ (by omega)
  have hw4 : IntKind.i64.wrap ((B3 : Int) * 256) = (B3 : Int) * 256 := IntWalk.i64_in _ (by omega)
  have hDs : D.size ≤ 281474976710656 := by rw [← HD.out, ByteArray.size_extract]; omega
  have HDS := Lib.hid hDs
  clear hf hl hD hDs
  go_enter Tryz.func184, Tryz.ntmps184
  go_wp2_with fail
  refine wp_region_noPanic ?_
  refine wp_region_held_drew (S := fun _ => True) (by kernel_rfl) trivial (fun _ => ?_)
  refine wpAnyH_take (i := 0) (v := ?v0) rfl (by kernel_rfl) (by kernel_rfl) (by kernel_rfl) (fun _ _ _ h => h) (Or.inl ⟨by rfl, ?y0⟩) trivial ?_; case y0 => (intro w' _; go_simp; try with_reducible rfl)
  simp only [Act.put, List.setIfInBounds_toArray, List.set_cons_zero, List.set_cons_succ]
  refine wpAnyH_take (i := 1) (v := ?v1) rfl (by kernel_rfl) (by kernel_rfl) (by kernel_rfl) (fun _ _ _ h => h) (Or.inl ⟨by rfl, ?y1⟩) trivial ?_; case y1 => (intro w' _; go_simp; try with_reducible rfl)
  simp only [Act.put, List.setIfInBounds_toArray, List.set_cons_zero, List.set_cons_succ]
  refine wpAnyH_take (i := 2) (v := ?v2) rfl (by kernel_rfl) (by kernel_rfl) (by kernel_rfl) (fun _ _ _ h => h) (Or.inl ⟨by rfl, ?y2⟩) trivial ?_; case y2 => (intro w' _; go_simp; try with_reducible rfl)
  simp only [Act.put, List.setIfInBounds_toArray, List.set_cons_zero, List.set_cons_succ]
  refine wpAnyH_take (i := 3) (v := ?v3) rfl (by kernel_rfl) (by kernel_rfl) (by kernel_rfl) (fun _ _ _ h => h) (Or.inl ⟨by rfl, ?y3⟩) trivial ?_; case y3 => (intro w' _; go_simp; try with_reducible rfl)
  simp only [Act.put, List.setIfInBounds_toArray, List.set_cons_zero, List.set_cons_succ]
  refine wpAnyH_take (i := 4) (v := ?v4) rfl (by kernel_rfl) (by kernel_rfl) (by kernel_rfl) (fun _ _ _ h => h) (Or.inl ⟨by rfl, ?y4⟩) trivial ?_; case y4 => (intro w' _; go_simp; try with_reducible rfl)
  simp only [Act.put, List.setIfInBounds_toArray, List.set_cons_zero, List.set_cons_succ]
  refine wpAnyH_take (i := 5) (v := ?v5) rfl (by kernel_rfl) (by kernel_rfl) (by kernel_rfl) (fun _ _ _ h => h) (Or.inl ⟨by rfl, ?y5⟩) trivial ?_; case y5 => (intro w' _; go_simp; try with_reducible rfl)
  simp only [Act.put, List.setIfInBounds_toArray, List.set_cons_zero, List.set_cons_succ]
  refine wpAnyH_take (i := 6) (v := ?v6) rfl (by kernel_rfl) (by kernel_rfl) (by kernel_rfl) (fun _ _ _ h => h) (Or.inl ⟨by rfl, ?y6⟩) trivial ?_; case y6 => (intro w' _; go_simp; try with_reducible rfl)
  simp only [Act.put, List.setIfInBounds_toArray, List.set_cons_zero, List.set_cons_succ]
  refine wpAnyH_take (i := 7) (v := ?v7) rfl (by kernel_rfl) (by kernel_rfl) (by kernel_rfl) (fun _ _ _ h => h) (Or.inl ⟨by rfl, ?y7⟩) trivial ?_; case y7 => (intro w' _; go_simp; try with_reducible rfl)
  simp only [Act.put, List.setIfInBounds_toArray, List.set_cons_zero, List.set_cons_succ]
  refine wpAnyH_take (i := 8) (v := ?v8) rfl (by kernel_rfl) (by kernel_rfl) (by kernel_rfl) (fun _ _ _ h => h) (Or.inl ⟨by rfl, ?y8⟩) trivial ?_; case y8 => (intro w' _; go_simp; try with_reducible rfl)
  simp only [Act.put, List.setIfInBounds_toArray, List.set_cons_zero, List.set_cons_succ]
  refine wpAnyH_take (i := 9) (v := ?v9) rfl (by kernel_rfl) (by kernel_rfl) (by kernel_rfl) (fun _ _ _ h => h) (Or.inl ⟨by rfl, ?y9⟩) trivial ?_; case y9 => (intro w' _; go_simp; try with_reducible rfl)
  simp only [Act.put, List.setIfInBounds_toArray, List.set_cons_zero, List.set_cons_succ]
  refine wpAnyH_take (i := 10) (v := ?v10) rfl (by kernel_rfl) (by kernel_rfl) (by kernel_rfl) (fun _ _ _ h => h) (Or.inl ⟨by rfl, ?y10⟩) trivial ?_; case y10 => (intro w' _; go_simp; try with_reducible rfl)
  simp only [Act.put, List.setIfInBounds_toArray, List.set_cons_zero, List.set_cons_succ]
  refine wpAnyH_take (i := 11) (v := ?v11) rfl (by kernel_rfl) (by kernel_rfl) (by kernel_rfl) (fun _ _ _ h => h) (Or.inl ⟨by rfl, ?y11⟩) trivial ?_; case y11 => (intro w' _; go_simp; try with_reducible rfl)
  simp only [Act.put, List.setIfInBounds_toArray, List.set_cons_zero, List.set_cons_succ]
  refine wpAnyH_take (i := 12) (v := ?v12) rfl (by kernel_rfl) (by kernel_rfl) (by kernel_rfl) (fun _ _ _ h => h) (Or.inl ⟨by rfl, ?y12⟩) trivial ?_; case y12 => (intro w' _; go_simp; try with_reducible rfl)
  simp only [Act.put, List.setIfInBounds_toArray, List.set_cons_zero, List.set_cons_succ]
  refine wpAnyH_take (i := 13) (v := ?v13) rfl (by kernel_rfl) (by kernel_rfl) (by kernel_rfl) (fun _ _ _ h => h) (Or.inl ⟨by rfl, ?y13⟩) trivial ?_; case y13 => (intro w' _; go_simp; try with_reducible rfl)
  simp only [Act.put, List.setIfInBounds_toArray, List.set_cons_zero, List.set_cons_succ]
  refine wpAnyH_take (i := 14) (v := ?v14) rfl (by kernel_rfl) (by kernel_rfl) (by kernel_rfl) (fun _ _ _ h => h) (Or.inl ⟨by rfl, ?y14⟩) trivial ?_; case y14 => (intro w' _; go_simp; try with_reducible rfl)
  simp only [Act.put, List.setIfInBounds_toArray, List.set_cons_zero, List.set_cons_succ]
  refine wpAnyH_take (i := 15) (v := ?v15) rfl (by kernel_rfl) (by kernel_rfl) (by kernel_rfl) (fun _ _ _ h => h) (Or.inl ⟨by rfl, ?y15⟩) trivial ?_; case y15 => (intro w' _; go_simp; try with_reducible rfl)
  simp only [Act.put, List.setIfInBounds_toArray, List.set_cons_zero, List.set_cons_succ]
  refine wpAnyH_take (i := 16) (v := ?v16) rfl (by kernel_rfl) (by kernel_rfl) (by kernel_rfl) (fun _ _ _ h => h) (Or.inl ⟨by rfl, ?y16⟩) trivial ?_; case y16 => (intro w' _; go_simp; try with_reducible rfl)
  simp only [Act.put, List.setIfInBounds_toArray, List.set_cons_zero, List.set_cons_succ]
  refine wpAnyH_take (i := 17) (v := ?v17) rfl (by kernel_rfl) (by kernel_rfl) (by kernel_rfl) (fun _ _ _ h => h) (Or.inl ⟨by rfl, ?y17⟩) trivial ?_; case y17 => (intro w' _; go_simp; try with_reducible rfl)
  simp only [Act.put, List.setIfInBounds_toArray, List.set_cons_zero, List.set_cons_succ]
  refine wpAnyH_take (i := 18) (v := ?v18) rfl (by kernel_rfl) (by kernel_rfl) (by kernel_rfl) (fun _ _ _ h => h) (Or.inl ⟨by rfl, ?y18⟩) trivial ?_; case y18 => (intro w' _; go_simp; try with_reducible rfl)
  simp only [Act.put, List.setIfInBounds_toArray, List.set_cons_zero, List.set_cons_succ]
  refine wpAnyH_take (i := 19) (v := ?v19) rfl (by kernel_rfl) (by kernel_rfl) (by kernel_rfl) (fun _ _ _ h => h) (Or.inl ⟨by rfl, ?y19⟩) trivial ?_; case y19 => (intro w' _; go_simp; try with_reducible rfl)
  simp only [Act.put, List.setIfInBounds_toArray, List.set_cons_zero, List.set_cons_succ]
  refine wpAnyH_take (i := 20) (v := ?v20) rfl (by kernel_rfl) (by kernel_rfl) (by kernel_rfl) (fun _ _ _ h => h) (Or.inl ⟨by rfl, ?y20⟩) trivial ?_; case y20 => (intro w' _; go_simp; try with_reducible rfl)
  simp only [Act.put, List.setIfInBounds_toArray, List.set_cons_zero, List.set_cons_succ]
  refine wpAnyH_take (i := 21) (v := ?v21) rfl (by kernel_rfl) (by kernel_rfl) (by kernel_rfl) (fun _ _ _ h => h) (Or.inl ⟨by rfl, ?y21⟩) trivial ?_; case y21 => (intro w' _; go_simp; try with_reducible rfl)
  simp only [Act.put, List.setIfInBounds_toArray, List.set_cons_zero, List.set_cons_succ]
  refine wpAnyH_ready (rs := [22, 24]) (by kernel_rfl) (by simp) ?_
  refine AllReadyH.cons rfl (fun K hK => ?_) (AllReadyH.cons rfl (fun K hK => ?_) AllReadyH.nil)
  · go_simp
    refine (clone_any D _ HDS.out).mono ?_
    rintro e w2 ⟨rfl, hb2⟩
    go_wp2_with fail
    refine hK.out _ _ trivial (fun _ => ?_)
    clear hK K
    try simp only [Act.put, List.setIfInBounds_toArray, List.set_cons_zero, List.set_cons_succ]
    refine wpAnyH_take (i := 23) (v := ?v23) rfl (by kernel_rfl) (by kernel_rfl) (by kernel_rfl) (fun _ _ _ h => h) (Or.inl ⟨by rfl, ?y23⟩) trivial ?_
    case y23 => (intro w' _; go_simp; try with_reducible rfl)
    try simp only [Act.put, List.setIfInBounds_toArray, List.set_cons_zero, List.set_cons_succ]
    refine wpAnyH_ready (rs := [24]) (by kernel_rfl) (by simp) ?_
    refine AllReadyH.cons rfl (fun K hK => ?_) AllReadyH.nil
    go_simp
    refine hK.out _ _ trivial (fun _ => ?_)
    clear hK K
    try simp only [Act.put, List.setIfInBounds_toArray, List.set_cons_zero, List.set_cons_succ]
    refine wpAnyH_ready (rs := [25]) (by kernel_rfl) (by simp) ?_
    refine AllReadyH.cons rfl (fun K hK => ?_) AllReadyH.nil
    go_simp
    refine hK.out _ _ trivial (fun _ => ?_)
    clear hK K
    try simp only [Act.put, List.setIfInBounds_toArray, List.set_cons_zero, List.set_cons_succ]
    refine wpAnyH_done (by kernel_rfl) ?_ _
    refine NoPanic.normal ?_
    have hsz2 := hb2.size
    rw [heap_drew, World.size_alloc] at hsz2
    have h5 := heap_alloc_new w2 (.cells #[.bool f, .bool l, .int .i64 ((B2 : Int) + 256 * B3), .string D] 189)
    have hb1 : Below w.heap.size w (w.alloc (.cells #[.bool false, .bool false, .int .i64 0, .string ⟨#[]⟩] 189)).drew := ((Below.refl _ _).alloc (Nat.le_refl _) _).drew
    have hb5 : Below w.heap.size w (w2.alloc (.cells #[.bool f, .bool l, .int .i64 ((B2 : Int) + 256 * B3), .string D] 189)) := Below.next_alloc (Below.next hb1 hb2) _
    have hz5 : (w2.alloc (.cells #[.bool f, .bool l, .int .i64 ((B2 : Int) + 256 * B3), .string D] 189)).heap[w.heap.size]? = some (.cells #[.bool false, .bool false, .int .i64 0, .string ⟨#[]⟩] 189 (0, 0)) :=
      (Below.heap_alloc w2 _ _ (by omega)).trans ((hb2.block _ (by simp)).trans (heap_alloc_new w _))
    have hlt5 : w.heap.size < w2.heap.size := by omega
    generalize w2.alloc (.cells #[.bool f, .bool l, .int .i64 ((B2 : Int) + 256 * B3), .string D] 189) = w5 at *
    generalize w2.heap.size = p at *
    clear hb2 hsz2 hb1 hsl hwr hw1 hw2 hw3 hw4 h0 h1 h2 h3 hor hx hy hx2 hy2 b32 b4
    have hT5 := hT.below hb5
    have hp5 : p < w5.heap.size := (Array.getElem?_eq_some_iff.1 h5).1
    have H5 := Lib.hid h5; have HB5 := Lib.hid hb5; have HZ5 := Lib.hid hz5; have HT5 := Lib.hid hT5
    clear hb5 hz5 hT5
    have c0 : w5.cell? ⟨p, 0, none⟩ = some (.bool f) := cell_of_row w5 p 0 _ _ _ h5
    have c1 : w5.cell? ⟨p, 1, none⟩ = some (.bool l) := cell_of_row w5 p 1 _ _ _ h5
    have c2 : w5.cell? ⟨p, 2, none⟩ = some (.int .i64 ((B2 : Int) + 256 * B3)) := cell_of_row w5 p 2 _ _ _ h5
    have c3 : w5.cell? ⟨p, 3, none⟩ = some (.string D) := cell_of_row w5 p 3 _ _ _ h5
    clear h5
    go_wp2_with fail
    clear c0 c1 c2 c3
    by_cases hm : Cr.may ⟨f, l, (B2 : Int) + 256 * B3, D⟩ = true
    · have HM := Lib.hid hm; clear hm
      refine (make_yes f l _ D _ HT5.out HM.out).mono ?_
      rintro e w6 ⟨rfl, hb6⟩
      have H6 := hb6.block p hp5
      rw [H5.out] at H6
      have Z6 := hb6.block w.heap.size (by omega)
      rw [HZ5.out] at Z6
      have HB6 := Lib.hid (Below.next HB5.out hb6)
      clear hb6
      obtain ⟨R, hR⟩ : ∃ R : ByteArray, R = ⟨(Cr.mk ⟨f, l, (B2 : Int) + 256 * B3, D⟩).toArray⟩ := ⟨_, rfl⟩
      rw [← hR] at HO ⊢
      clear hR
      by_cases hq : R = s
      · subst hq
        have HOUT := Lib.hid (HO.out.1 ⟨HM.out, rfl⟩)
        have c0 : w6.cell? ⟨p, 0, none⟩ = some (.bool f) := cell_of_row w6 p 0 _ _ _ H6
        have c1 : w6.cell? ⟨p, 1, none⟩ = some (.bool l) := cell_of_row w6 p 1 _ _ _ H6
        have c2 : w6.cell? ⟨p, 2, none⟩ = some (.int .i64 ((B2 : Int) + 256 * B3)) := cell_of_row w6 p 2 _ _ _ H6
        have c3 : w6.cell? ⟨p, 3, none⟩ = some (.string D) := cell_of_row w6 p 3 _ _ _ H6
        have z0 : w6.cell? ⟨w.heap.size, 0, none⟩ = some (.bool false) := cell_of_row w6 w.heap.size 0 _ _ _ Z6
        have z1 : w6.cell? ⟨w.heap.size, 1, none⟩ = some (.bool false) := cell_of_row w6 w.heap.size 1 _ _ _ Z6
        have z2 : w6.cell? ⟨w.heap.size, 2, none⟩ = some (.int .i64 0) := cell_of_row w6 w.heap.size 2 _ _ _ Z6
        have z3 : w6.cell? ⟨w.heap.size, 3, none⟩ = some (.string ⟨#[]⟩) := cell_of_row w6 w.heap.size 3 _ _ _ Z6
        have zf : ∀ o, w6.frozen? ⟨w.heap.size, o, none⟩ = false := fun o => by simp [World.frozen?, Z6]
        have HH6 := Lib.hid H6; clear H6
        have HZ6 := Lib.hid Z6; clear Z6
        go_wp2_with fail
        rw [HOUT.out]
        refine bodyPost_ret (v := .tuple #[.agg #[.bool f, .bool l, .int .i64 ((B2 : Int) + 256 * B3), .string D], .bool true]) (by simp [results, Tryz.results184, go_sem, z0, z1, z2, z3]) rfl ⟨rfl, ?_⟩
        exact (((HB6.out.setCell (p := ⟨w.heap.size, 0, none⟩) (Nat.le_refl _) _).setCell (p := ⟨w.heap.size, 1, none⟩) (Nat.le_refl _) _).setCell (p := ⟨w.heap.size, 2, none⟩) (Nat.le_refl _) _).setCell (p := ⟨w.heap.size, 3, none⟩) (Nat.le_refl _) _
      · have HOUT := Lib.hid (HO.out.2 (fun h => hq h.2))
        have z0 : w6.cell? ⟨w.heap.size, 0, none⟩ = some (.bool false) := cell_of_row w6 w.heap.size 0 _ _ _ Z6
        have z1 : w6.cell? ⟨w.heap.size, 1, none⟩ = some (.bool false) := cell_of_row w6 w.heap.size 1 _ _ _ Z6
        have z2 : w6.cell? ⟨w.heap.size, 2, none⟩ = some (.int .i64 0) := cell_of_row w6 w.heap.size 2 _ _ _ Z6
        have z3 : w6.cell? ⟨w.heap.size, 3, none⟩ = some (.string ⟨#[]⟩) := cell_of_row w6 w.heap.size 3 _ _ _ Z6
        have zf : ∀ o, w6.frozen? ⟨w.heap.size, o, none⟩ = false := fun o => by simp [World.frozen?, Z6]
        have HH6 := Lib.hid H6; clear H6
        have HZ6 := Lib.hid Z6; clear Z6
        have q0 : ¬ R.toList = s.toList := fun e => hq (str_eq e)
        have q1 : (R.toList == s.toList) = false := by rw [beq_eq_false_iff_ne]; exact q0
        have q2 : (R.toList != s.toList) = true := by rw [bne, q1]; rfl
        clear hq
        go_wp2_with fail
        rw [HOUT.out]
        refine bodyPost_ret (v := noV) (by simp [results, Tryz.results184, go_sem, noV, z0, z1, z2, z3]) rfl ⟨rfl, ?_⟩
        exact (((HB6.out.setCell (p := ⟨w.heap.size, 0, none⟩) (Nat.le_refl _) _).setCell (p := ⟨w.heap.size, 1, none⟩) (Nat.le_refl _) _).setCell (p := ⟨w.heap.size, 2, none⟩) (Nat.le_refl _) _).setCell (p := ⟨w.heap.size, 3, none⟩) (Nat.le_refl _) _
    · have HOUT := Lib.hid (HO.out.2 (fun h => hm h.1))
      have HM := Lib.hid (Bool.eq_false_iff.2 hm); clear hm
      refine (make_no f l _ D _ (by have := HDS.out; omega) HM.out).mono ?_
      rintro e w6 ⟨rfl, hb6⟩
      have Z6 := hb6.block w.heap.size (by omega)
      rw [HZ5.out] at Z6
      have HB6 := Lib.hid (Below.next HB5.out hb6)
      clear hb6
      have z0 : w6.cell? ⟨w.heap.size, 0, none⟩ = some (.bool false) := cell_of_row w6 w.heap.size 0 _ _ _ Z6
      have z1 : w6.cell? ⟨w.heap.size, 1, none⟩ = some (.bool false) := cell_of_row w6 w.heap.size 1 _ _ _ Z6
      have z2 : w6.cell? ⟨w.heap.size, 2, none⟩ = some (.int .i64 0) := cell_of_row w6 w.heap.size 2 _ _ _ Z6
      have z3 : w6.cell? ⟨w.heap.size, 3, none⟩ = some (.string ⟨#[]⟩) := cell_of_row w6 w.heap.size 3 _ _ _ Z6
      have zf : ∀ o, w6.frozen? ⟨w.heap.size, o, none⟩ = false := fun o => by simp [World.frozen?, Z6]
      have HZ6 := Lib.hid Z6; clear Z6
      go_wp2_with fail
      rw [HOUT.out]
      refine bodyPost_ret (v := noV) (by simp [results, Tryz.results184, go_sem, noV, z0, z1, z2, z3]) rfl ⟨rfl, ?_⟩
      exact (((HB6.out.setCell (p := ⟨w.heap.size, 0, none⟩) (Nat.le_refl _) _).setCell (p := ⟨w.heap.size, 1, none⟩) (Nat.le_refl _) _).setCell (p := ⟨w.heap.size, 2, none⟩) (Nat.le_refl _) _).setCell (p := ⟨w.heap.size, 3, none⟩) (Nat.le_refl _) _
  · go_simp
    refine hK.out _ _ trivial (fun _ => ?_)
    clear hK K
    try simp only [Act.put, List.setIfInBounds_toArray, List.set_cons_zero, List.set_cons_succ]
    refine wpAnyH_ready (rs := [22]) (by kernel_rfl) (by simp) ?_
    refine AllReadyH.cons rfl (fun K hK => ?_) AllReadyH.nil
    go_simp
    refine (clone_any D _ HDS.out).mono ?_
    rintro e w2 ⟨rfl, hb2⟩
    go_wp2_with fail
    refine hK.out _ _ trivial (fun _ => ?_)
    clear hK K
    try simp only [Act.put, List.setIfInBounds_toArray, List.set_cons_zero, List.set_cons_succ]
    refine wpAnyH_take (i := 23) (v := ?v23b) rfl (by kernel_rfl) (by kernel_rfl) (by kernel_rfl) (fun _ _ _ h => h) (Or.inl ⟨by rfl, ?y23b⟩) trivial ?_
    case y23b => (intro w' _; go_simp; try with_reducible rfl)
    try simp only [Act.put, List.setIfInBounds_toArray, List.set_cons_zero, List.set_cons_succ]
    refine wpAnyH_ready (rs := [25]) (by kernel_rfl) (by simp) ?_
    refine AllReadyH.cons rfl (fun K hK => ?_) AllReadyH.nil
    obtain ⟨hc2, hf2⟩ := bcell hb2
    go_simp
    refine hK.out _ _ trivial (fun _ => ?_)
    clear hK K hc2 hf2
    try simp only [Act.put, List.setIfInBounds_toArray, List.set_cons_zero, List.set_cons_succ]
    refine wpAnyH_done (by kernel_rfl) ?_ _
    refine NoPanic.normal ?_
    have hsz2 := hb2.size
    rw [heap_drew, World.size_alloc, World.size_alloc] at hsz2
    have hb1 : Below w.heap.size w ((w.alloc (.cells #[.bool false, .bool false, .int .i64 0, .string ⟨#[]⟩] 189)).alloc (.cells #[.bool false, .bool false, .int .i64 0, .string ⟨#[]⟩] 189)).drew := (Below.next_alloc ((Below.refl _ _).alloc (Nat.le_refl _) _) _).drew
    have hb3 : Below w.heap.size w w2 := Below.next hb1 hb2
    have hB2 : w2.heap[w.heap.size + 1]? = some (.cells #[.bool false, .bool false, .int .i64 0, .string ⟨#[]⟩] 189 (0, 0)) := (hb2.block _ (by simp)).trans (heap_alloc2_new w _ _)
    have hz2 : w2.heap[w.heap.size]? = some (.cells #[.bool false, .bool false, .int .i64 0, .string ⟨#[]⟩] 189 (0, 0)) := (hb2.block _ (by simp; omega)).trans (heap_alloc2_old w _ _)
    have h5 : ((((w2.setCell ⟨w.heap.size + 1, 0, none⟩ (.bool f)).setCell ⟨w.heap.size + 1, 1, none⟩ (.bool l)).setCell ⟨w.heap.size + 1, 2, none⟩ (.int .i64 ((B2 : Int) + 256 * B3))).setCell ⟨w.heap.size + 1, 3, none⟩ (.string D)).heap[w.heap.size + 1]? = some (.cells #[.bool f, .bool l, .int .i64 ((B2 : Int) + 256 * B3), .string D] 189 (0, 0)) :=
      Lib.heap_setCell_same (i := 3) (Lib.heap_setCell_same (i := 2) (Lib.heap_setCell_same (i := 1) (Lib.heap_setCell_same (i := 0) hB2 _) _) _) _
    have hz5 : ((((w2.setCell ⟨w.heap.size + 1, 0, none⟩ (.bool f)).setCell ⟨w.heap.size + 1, 1, none⟩ (.bool l)).setCell ⟨w.heap.size + 1, 2, none⟩ (.int .i64 ((B2 : Int) + 256 * B3))).setCell ⟨w.heap.size + 1, 3, none⟩ (.string D)).heap[w.heap.size]? = some (.cells #[.bool false, .bool false, .int .i64 0, .string ⟨#[]⟩] 189 (0, 0)) := by
      rw [heap_setCell_other _ _ _ _ (by simp), heap_setCell_other _ _ _ _ (by simp), heap_setCell_other _ _ _ _ (by simp), heap_setCell_other _ _ _ _ (by simp)]; exact hz2
    have hb5 : Below w.heap.size w ((((w2.setCell ⟨w.heap.size + 1, 0, none⟩ (.bool f)).setCell ⟨w.heap.size + 1, 1, none⟩ (.bool l)).setCell ⟨w.heap.size + 1, 2, none⟩ (.int .i64 ((B2 : Int) + 256 * B3))).setCell ⟨w.heap.size + 1, 3, none⟩ (.string D)) :=
      (((hb3.setCell (p := ⟨w.heap.size + 1, 0, none⟩) (by simp) _).setCell (p := ⟨w.heap.size + 1, 1, none⟩) (by simp) _).setCell (p := ⟨w.heap.size + 1, 2, none⟩) (by simp) _).setCell (p := ⟨w.heap.size + 1, 3, none⟩) (by simp) _
    have hlt5 : w.heap.size < w.heap.size + 1 := by omega
    generalize (((w2.setCell ⟨w.heap.size + 1, 0, none⟩ (.bool f)).setCell ⟨w.heap.size + 1, 1, none⟩ (.bool l)).setCell ⟨w.heap.size + 1, 2, none⟩ (.int .i64 ((B2 : Int) + 256 * B3))).setCell ⟨w.heap.size + 1, 3, none⟩ (.string D) = w5 at *
    generalize w.heap.size + 1 = p at *
    clear hb3 hB2 hz2
    clear hb2 hsz2 hb1 hsl hwr hw1 hw2 hw3 hw4 h0 h1 h2 h3 hor hx hy hx2 hy2 b32 b4
    have hT5 := hT.below hb5
    have hp5 : p < w5.heap.size := (Array.getElem?_eq_some_iff.1 h5).1
    have H5 := Lib.hid h5; have HB5 := Lib.hid hb5; have HZ5 := Lib.hid hz5; have HT5 := Lib.hid hT5
    clear hb5 hz5 hT5
    have c0 : w5.cell? ⟨p, 0, none⟩ = some (.bool f) := cell_of_row w5 p 0 _ _ _ h5
    have c1 : w5.cell? ⟨p, 1, none⟩ = some (.bool l) := cell_of_row w5 p 1 _ _ _ h5
    have c2 : w5.cell? ⟨p, 2, none⟩ = some (.int .i64 ((B2 : Int) + 256 * B3)) := cell_of_row w5 p 2 _ _ _ h5
    have c3 : w5.cell? ⟨p, 3, none⟩ = some (.string D) := cell_of_row w5 p 3 _ _ _ h5
    clear h5
    go_wp2_with fail
    clear c0 c1 c2 c3
    by_cases hm : Cr.may ⟨f, l, (B2 : Int) + 256 * B3, D⟩ = true
    · have HM := Lib.hid hm; clear hm
      refine (make_yes f l _ D _ HT5.out HM.out).mono ?_
      rintro e w6 ⟨rfl, hb6⟩
      have H6 := hb6.block p hp5
      rw [H5.out] at H6
      have Z6 := hb6.block w.heap.size (by omega)
      rw [HZ5.out] at Z6
      have HB6 := Lib.hid (Below.next HB5.out hb6)
      clear hb6
      obtain ⟨R, hR⟩ : ∃ R : ByteArray, R = ⟨(Cr.mk ⟨f, l, (B2 : Int) + 256 * B3, D⟩).toArray⟩ := ⟨_, rfl⟩
      rw [← hR] at HO ⊢
      clear hR
      by_cases hq : R = s
      · subst hq
        have HOUT := Lib.hid (HO.out.1 ⟨HM.out, rfl⟩)
        have c0 : w6.cell? ⟨p, 0, none⟩ = some (.bool f) := cell_of_row w6 p 0 _ _ _ H6
        have c1 : w6.cell? ⟨p, 1, none⟩ = some (.bool l) := cell_of_row w6 p 1 _ _ _ H6
        have c2 : w6.cell? ⟨p, 2, none⟩ = some (.int .i64 ((B2 : Int) + 256 * B3)) := cell_of_row w6 p 2 _ _ _ H6
        have c3 : w6.cell? ⟨p, 3, none⟩ = some (.string D) := cell_of_row w6 p 3 _ _ _ H6
        have z0 : w6.cell? ⟨w.heap.size, 0, none⟩ = some (.bool false) := cell_of_row w6 w.heap.size 0 _ _ _ Z6
        have z1 : w6.cell? ⟨w.heap.size, 1, none⟩ = some (.bool false) := cell_of_row w6 w.heap.size 1 _ _ _ Z6
        have z2 : w6.cell? ⟨w.heap.size, 2, none⟩ = some (.int .i64 0) := cell_of_row w6 w.heap.size 2 _ _ _ Z6
        have z3 : w6.cell? ⟨w.heap.size, 3, none⟩ = some (.string ⟨#[]⟩) := cell_of_row w6 w.heap.size 3 _ _ _ Z6
        have zf : ∀ o, w6.frozen? ⟨w.heap.size, o, none⟩ = false := fun o => by simp [World.frozen?, Z6]
        have HH6 := Lib.hid H6; clear H6
        have HZ6 := Lib.hid Z6; clear Z6
        go_wp2_with fail
        rw [HOUT.out]
        refine bodyPost_ret (v := .tuple #[.agg #[.bool f, .bool l, .int .i64 ((B2 : Int) + 256 * B3), .string D], .bool true]) (by simp [results, Tryz.results184, go_sem, z0, z1, z2, z3]) rfl ⟨rfl, ?_⟩
        exact (((HB6.out.setCell (p := ⟨w.heap.size, 0, none⟩) (Nat.le_refl _) _).setCell (p := ⟨w.heap.size, 1, none⟩) (Nat.le_refl _) _).setCell (p := ⟨w.heap.size, 2, none⟩) (Nat.le_refl _) _).setCell (p := ⟨w.heap.size, 3, none⟩) (Nat.le_refl _) _
      · have HOUT := Lib.hid (HO.out.2 (fun h => hq h.2))
        have z0 : w6.cell? ⟨w.heap.size, 0, none⟩ = some (.bool false) := cell_of_row w6 w.heap.size 0 _ _ _ Z6
        have z1 : w6.cell? ⟨w.heap.size, 1, none⟩ = some (.bool false) := cell_of_row w6 w.heap.size 1 _ _ _ Z6
        have z2 : w6.cell? ⟨w.heap.size, 2, none⟩ = some (.int .i64 0) := cell_of_row w6 w.heap.size 2 _ _ _ Z6
        have z3 : w6.cell? ⟨w.heap.size, 3, none⟩ = some (.string ⟨#[]⟩) := cell_of_row w6 w.heap.size 3 _ _ _ Z6
        have zf : ∀ o, w6.frozen? ⟨w.heap.size, o, none⟩ = false := fun o => by simp [World.frozen?, Z6]
        have HH6 := Lib.hid H6; clear H6
        have HZ6 := Lib.hid Z6; clear Z6
        have q0 : ¬ R.toList = s.toList := fun e => hq (str_eq e)
        have q1 : (R.toList == s.toList) = false := by rw [beq_eq_false_iff_ne]; exact q0
        have q2 : (R.toList != s.toList) = true := by rw [bne, q1]; rfl
        clear hq
        go_wp2_with fail
        rw [HOUT.out]
        refine bodyPost_ret (v := noV) (by simp [results, Tryz.results184, go_sem, noV, z0, z1, z2, z3]) rfl ⟨rfl, ?_⟩
        exact (((HB6.out.setCell (p := ⟨w.heap.size, 0, none⟩) (Nat.le_refl _) _).setCell (p := ⟨w.heap.size, 1, none⟩) (Nat.le_refl _) _).setCell (p := ⟨w.heap.size, 2, none⟩) (Nat.le_refl _) _).setCell (p := ⟨w.heap.size, 3, none⟩) (Nat.le_refl _) _
    · have HOUT := Lib.hid (HO.out.2 (fun h => hm h.1))
      have HM := Lib.hid (Bool.eq_false_iff.2 hm); clear hm
      refine (make_no f l _ D _ (by have := HDS.out; omega) HM.out).mono ?_
      rintro e w6 ⟨rfl, hb6⟩
      have Z6 := hb6.block w.heap.size (by omega)
      rw [HZ5.out] at Z6
      have HB6 := Lib.hid (Below.next HB5.out hb6)
      clear hb6
      have z0 : w6.cell? ⟨w.heap.size, 0, none⟩ = some (.bool false) := cell_of_row w6 w.heap.size 0 _ _ _ Z6
      have z1 : w6.cell? ⟨w.heap.size, 1, none⟩ = some (.bool false) := cell_of_row w6 w.heap.size 1 _ _ _ Z6
      have z2 : w6.cell? ⟨w.heap.size, 2, none⟩ = some (.int .i64 0) := cell_of_row w6 w.heap.size 2 _ _ _ Z6
      have z3 : w6.cell? ⟨w.heap.size, 3, none⟩ = some (.string ⟨#[]⟩) := cell_of_row w6 w.heap.size 3 _ _ _ Z6
      have zf : ∀ o, w6.frozen? ⟨w.heap.size, o, none⟩ = false := fun o => by simp [World.frozen?, Z6]
      have HZ6 := Lib.hid Z6; clear Z6
      go_wp2_with fail
      rw [HOUT.out]
      refine bodyPost_ret (v := noV) (by simp [results, Tryz.results184, go_sem, noV, z0, z1, z2, z3]) rfl ⟨rfl, ?_⟩
      exact (((HB6.out.setCell (p := ⟨w.heap.size, 0, none⟩) (Nat.le_refl _) _).setCell (p := ⟨w.heap.size, 1, none⟩) (Nat.le_refl _) _).setCell (p := ⟨w.heap.size, 2, none⟩) (Nat.le_refl _) _).setCell (p := ⟨w.heap.size, 3, none⟩) (Nat.le_refl _) _

/-- What Read tells, as a value. -/
def rdV (s : ByteArray) : Value := match Cr.rd s.data.toList with
  | some c => .tuple #[clV c, .bool true]
  | none => noV

theorem getD_byte (s : ByteArray) (i : Nat) (h : i < s.size) : s.data.toList.getD i 0 = s[i] := by
  rw [List.getD_eq_getElem?_getD, List.getElem?_eq_getElem (by rw [Cr.size_list]; exact h)]; rfl

theorem cellRead_any (s : ByteArray) (w : World) (hT : Tab w) : Calls Tryz.prog 184 #[.string s] w (Gives (rdV s) w) := by
  by_cases hs : s.size = 32
  · by_cases h1 : 24 < (s[1]'(by omega)).toNat
    · have e : rdV s = noV := by
        unfold rdV Cr.rd
        rw [if_neg]
        rw [getD_byte s 1 (by omega)]
        omega
      rw [e]; exact read_great s w hs h1
    · have hm0 := (s[0]'(by omega)).toNat_lt
      have hm2 := (s[2]'(by omega)).toNat_lt
      have hm3 := (s[3]'(by omega)).toNat_lt
      have hdec : Cr.dec s.data.toList = ⟨decide ((s[0]'(by omega)).toNat % 2 = 1), decide ((s[0]'(by omega)).toNat / 2 % 2 = 1), ((s[2]'(by omega)).toNat : Int) + (256 : Int) * ((s[3]'(by omega)).toNat : Int), s.extract 4 (4 + (s[1]'(by omega)).toNat)⟩ := by
        unfold Cr.dec
        rw [getD_byte s 0 (by omega), getD_byte s 1 (by omega), getD_byte s 2 (by omega), getD_byte s 3 (by omega)]
        refine Cr.Cl.eq rfl rfl rfl ?_
        apply ByteArray.ext
        apply Array.toList_inj.1
        show _ = (s.extract 4 (4 + (s[1]'(by omega)).toNat)).data.toList
        rw [Lib.extract_data, List.toList_toArray, Nat.add_sub_cancel_left]
      refine read_may s w hT hs (s[0]'(by omega)).toNat (s[1]'(by omega)).toNat (s[2]'(by omega)).toNat (s[3]'(by omega)).toNat (index_byte s 0 (by omega)) (index_byte s 1 (by omega)) (index_byte s 2 (by omega)) (index_byte s 3 (by omega)) (by omega) (by omega) (by omega)
        (Cr.dec s.data.toList).first (Cr.dec s.data.toList).last (by rw [hdec]) (by rw [hdec]) _ _ (and1 _ (by omega)) (and2 _ (by omega)) ?_ ?_ (Cr.dec s.data.toList).data (by rw [hdec]) (rdV s) ?_
      · rw [hdec]; dsimp only
        generalize (s[0]'(by omega)).toNat = b
        rcases Nat.mod_two_eq_zero_or_one b with h | h <;> rw [h] <;> rfl
      · rw [hdec]; dsimp only
        generalize (s[0]'(by omega)).toNat = b
        rcases Nat.mod_two_eq_zero_or_one (b / 2) with h | h <;> rw [h] <;> rfl
      · have hn : ((s[2]'(by omega)).toNat : Int) + (256 : Int) * ((s[3]'(by omega)).toNat : Int) = (Cr.dec s.data.toList).num := by rw [hdec]
        rw [hn]
        clear hn
        show Hid ((Cr.may (Cr.dec s.data.toList) = true ∧ (⟨(Cr.mk (Cr.dec s.data.toList)).toArray⟩ : ByteArray) = s → rdV s = .tuple #[clV (Cr.dec s.data.toList), .bool true]) ∧ (¬ (Cr.may (Cr.dec s.data.toList) = true ∧ (⟨(Cr.mk (Cr.dec s.data.toList)).toArray⟩ : ByteArray) = s) → rdV s = noV))
        have hk : ((⟨(Cr.mk (Cr.dec s.data.toList)).toArray⟩ : ByteArray) = s) ↔ Cr.mk (Cr.dec s.data.toList) = s.data.toList := by
          refine ⟨fun h => congrArg (fun x : ByteArray => x.data.toList) h, fun h => by rw [h]⟩
        rw [hk]
        have hl : s.data.toList.length = 32 := by rw [Cr.size_list]; exact hs
        refine Lib.hid ⟨fun h => ?_, fun h => ?_⟩
        · unfold rdV Cr.rd
          rw [if_pos ⟨hl, by rw [getD_byte s 1 (by omega)]; omega, h.1, h.2⟩]
        · unfold rdV Cr.rd
          rw [if_neg (fun hc => h ⟨hc.2.2.1, hc.2.2.2⟩)]
  · have e : rdV s = noV := by
      unfold rdV
      rw [Cr.rd_none (by rw [Cr.size_list]; exact hs)]
    rw [e]; exact read_len s w hs

end Go.Proofs.YtfeconankopjmaaGreatDoor

/- Walks of frame.cellsOf, appendFrame. -/
namespace Go.Proofs.YtfeconankopjmaaGreatDoor
open Go.RowKit

theorem Tab.belowB {w w' : World} {base : Nat} (h : Tab w) (h0 : 3 < base) (hb : Below base w w') : Tab w' := fun i hi => (hb.cell (p := ⟨3, i, none⟩) h0).trans (h i hi)

set_option maxHeartbeats 400000 in
theorem cellsOf_any (r : ByteArray) (w : World) (hr : r.size ≤ 1000000000000) :
    Calls Tryz.prog 92 #[.string r] w fun e w' => e = .returned (.int .i64 (Cr.cells r : Nat)) ∧ w = w' := by
  go_enter Tryz.func92, Tryz.ntmps92
  go_wp2_with fail
  go_ret
  refine ⟨?_, rfl⟩
  unfold Cr.cells
  have e : max 1 (((r.size : Int) + 24 - 1) / 24) = ((max 1 ((r.size + 23) / 24) : Nat) : Int) := by omega
  exact congrArg (fun x => Ending.returned (.int .i64 x)) e

theorem cells_small {r : ByteArray} (h : r.size ≤ 524288) : Cr.cells r ≤ 21846 := by unfold Cr.cells; omega

/-- A cell as the code spells it. -/
theorem cl_last {r : ByteArray} {k : Nat} (hk : k + 1 = Cr.cells r) : Cr.cl r k = ⟨decide (k = 0), true, k, r.extract (24 * k) r.size⟩ := by
  unfold Cr.cl
  rw [show min (24 * k + 24) r.size = r.size by unfold Cr.cells at hk; omega, decide_eq_true hk]
theorem cl_more {r : ByteArray} {k : Nat} (hk : k + 1 < Cr.cells r) : Cr.cl r k = ⟨decide (k = 0), false, k, r.extract (24 * k) (24 * k + 24)⟩ := by
  unfold Cr.cl
  rw [show min (24 * k + 24) r.size = 24 * k + 24 by unfold Cr.cells at hk; omega, decide_eq_false (show ¬ k + 1 = Cr.cells r by omega)]
theorem int_beq_zero (k : Nat) : ((k : Int) == 0) = decide (k = 0) := by
  rw [Bool.eq_iff_iff, beq_iff_eq, decide_eq_true_eq]; omega

set_option maxHeartbeats 1000000 in
theorem appendFrame_any (base : Nat) (v : Value) (l : List UInt8) (r : ByteArray) (w : World) (hown : Owns w base v l) (h0 : 3 < base) (hb : base ≤ w.heap.size) (hT : Tab w) (hl : l.length ≤ 1099511627776) (hr : r.size ≤ 524288) :
    Calls Tryz.prog 93 #[v, .string r] w (Grew base (l ++ Cr.frame r) w) := by
  obtain ⟨i0, hi, hz0, hz1, hz2⟩ := info_parts info_u8
  have hc := cells_small hr
  have HR := Lib.hid hr
  have HT := Lib.hid hT; clear hT
  have HL := Lib.hid hl; clear hl
  have hcp := Cr.cells_pos r
  go_enter Tryz.func93, Tryz.ntmps93
  go_wp2_with fail
  refine (cellsOf_any r _ (by omega)).mono ?_
  rintro e w' ⟨rfl, rfl⟩
  obtain ⟨C, hC⟩ : ∃ C, C = Cr.cells r := ⟨_, rfl⟩
  rw [← hC] at hc hcp ⊢
  have HF : Hid (Cr.frame r = Cr.frm r C) := by rw [hC]; exact Lib.hid rfl
  have HC := Lib.hid hC; clear hC
  clear hr
  go_wp2_with fail
  go_loopw [0, 13] (fun u i wr => ∃ k : Nat, k ≤ C ∧ i = .int .i64 k ∧ Hid (Owns wr base u (l ++ Cr.frm r k)) ∧ Hid (Below base w wr)) (fun _ i _ => C - (intOf i).toNat)
  case atStart => exact ⟨0, Nat.zero_le _, rfl, Lib.hid (by rw [Cr.frm, List.append_nil]; exact hown), Lib.hid (Below.refl _ _)⟩
  case round =>
    obtain ⟨k, hk, rfl, HO, HB⟩ := hrel
    by_cases hlt : k < C
    · have hrk : 24 * k ≤ r.size := Cr.cell_at (by have := HC.out; omega)
      have hrs : r.size ≤ 524288 := HR.out
      by_cases hlast : k + 1 = C
      · skip
        have e2 : ((k : Int) == (C : Int) - 1) = true := by rw [beq_iff_eq]; omega
        have e3 : min ((k : Int) * 24 + 24) (r.size : Int) = (r.size : Int) := by have := HC.out; unfold Cr.cells at this; omega
        have ecl : (⟨((k : Int) == 0), true, (k : Int), r.extract (k * 24) r.size⟩ : Cr.Cl) = Cr.cl r k := by
          rw [cl_last (by have := HC.out; omega), int_beq_zero, Nat.mul_comm]
        have hmk := make_yes ((k : Int) == 0) true k (r.extract (k * 24) r.size) wr (HT.out.belowB h0 HB.out) (by rw [ecl]; exact Cr.cl_may (by have := HC.out; omega) hrs)
        rw [ecl] at hmk
        have HM := Lib.hid hmk
        clear hmk ecl
        go_wp2_with fail
        refine HM.out.mono ?_
        rintro e w1 ⟨rfl, hb1⟩
        have hraw : Owns w1 base u0 (l ++ Cr.frm r k) := HO.out.kept hb1
        have hb2 : Below base w w1 := HB.out.trans (hb1.mono (Nat.le_trans hb HB.out.size))
        have hbw : base ≤ w1.heap.size := below_next hb2 hb
        have hlen : (l ++ Cr.frm r k).length ≤ 1099513000000 := by rw [List.length_append, Cr.frm_length]; have := HL.out; omega
        have hS : Hid ((⟨(Cr.mk (Cr.cl r k)).toArray⟩ : ByteArray).size = 32) := Cr.mk_cl_length r k
        have HN : Hid (∀ (v' : Value) (w2 : World), w2.ownsRow base 5 1 v' ((l ++ Cr.frm r k).length + (⟨(Cr.mk (Cr.cl r k)).toArray⟩ : ByteArray).size) (Lib.byteCells (l ++ Cr.frm r k) ++ Lib.strCells ⟨(Cr.mk (Cr.cl r k)).toArray⟩) → Owns w2 base v' (l ++ Cr.frm r (k + 1))) := by
          intro v' w2 h
          have := Owns.cat h
          rw [Cr.frm, ← List.append_assoc]
          exact this
        clear HM HB HO hb1
        unfold Owns at hraw
        generalize (⟨(Cr.mk (Cr.cl r k)).toArray⟩ : ByteArray) = S at *
        generalize l ++ Cr.frm r k = L at *
        go_wp2_with (at_builtin; go_must (refine Lib.wpList_append_own_string _ rfl _ _ 128 9 rfl base 5 i0 Tryz.underlying128 Tryz.underlying9 hi hz0 hz1 hz2 _ _ _ rfl hraw S rfl ?c3 ?c4 ?c5 ?_))
        case c3 => have := hS.out; unfold maxLen; omega
        case c4 => have := hS.out; omega
        case c5 => exact hbw
        intro v' w2 hown' hgrow _
        have R : Hid (Owns w2 base v' (l ++ Cr.frm r (k + 1)) ∧ Below base w w2) := ⟨HN.out v' w2 hown', hb2.grown hgrow hbw (fun q hq => (hraw.lt q hq).1)⟩
        clear hown' hgrow hraw HN
        go_wp2_with fail
        go_roundw
        case rel => exact ⟨k + 1, by omega, by go_num, Lib.hid R.out.1, Lib.hid R.out.2⟩
        case measure => simp [intOf]; omega
      · skip
        have e2 : ((k : Int) == (C : Int) - 1) = false := by rw [beq_eq_false_iff_ne]; omega
        have e3 : min ((k : Int) * 24 + 24) (r.size : Int) = (k : Int) * 24 + 24 := by have := HC.out; unfold Cr.cells at this; omega
        have ecl : (⟨((k : Int) == 0), false, (k : Int), r.extract (k * 24) (k * 24 + 24)⟩ : Cr.Cl) = Cr.cl r k := by
          rw [cl_more (by have := HC.out; omega), int_beq_zero, Nat.mul_comm]
        have hmk := make_yes ((k : Int) == 0) false k (r.extract (k * 24) (k * 24 + 24)) wr (HT.out.belowB h0 HB.out) (by rw [ecl]; exact Cr.cl_may (by have := HC.out; omega) hrs)
        rw [ecl] at hmk
        have HM := Lib.hid hmk
        clear hmk ecl
        have hrs2 : 24 * k + 24 ≤ r.size := by have := HC.out; unfold Cr.cells at this; omega
        go_wp2_with fail
        refine HM.out.mono ?_
        rintro e w1 ⟨rfl, hb1⟩
        have hraw : Owns w1 base u0 (l ++ Cr.frm r k) := HO.out.kept hb1
        have hb2 : Below base w w1 := HB.out.trans (hb1.mono (Nat.le_trans hb HB.out.size))
        have hbw : base ≤ w1.heap.size := below_next hb2 hb
        have hlen : (l ++ Cr.frm r k).length ≤ 1099513000000 := by rw [List.length_append, Cr.frm_length]; have := HL.out; omega
        have hS : Hid ((⟨(Cr.mk (Cr.cl r k)).toArray⟩ : ByteArray).size = 32) := Cr.mk_cl_length r k
        have HN : Hid (∀ (v' : Value) (w2 : World), w2.ownsRow base 5 1 v' ((l ++ Cr.frm r k).length + (⟨(Cr.mk (Cr.cl r k)).toArray⟩ : ByteArray).size) (Lib.byteCells (l ++ Cr.frm r k) ++ Lib.strCells ⟨(Cr.mk (Cr.cl r k)).toArray⟩) → Owns w2 base v' (l ++ Cr.frm r (k + 1))) := by
          intro v' w2 h
          have := Owns.cat h
          rw [Cr.frm, ← List.append_assoc]
          exact this
        clear HM HB HO hb1
        unfold Owns at hraw
        generalize (⟨(Cr.mk (Cr.cl r k)).toArray⟩ : ByteArray) = S at *
        generalize l ++ Cr.frm r k = L at *
        go_wp2_with (at_builtin; go_must (refine Lib.wpList_append_own_string _ rfl _ _ 128 9 rfl base 5 i0 Tryz.underlying128 Tryz.underlying9 hi hz0 hz1 hz2 _ _ _ rfl hraw S rfl ?c3 ?c4 ?c5 ?_))
        case c3 => have := hS.out; unfold maxLen; omega
        case c4 => have := hS.out; omega
        case c5 => exact hbw
        intro v' w2 hown' hgrow _
        have R : Hid (Owns w2 base v' (l ++ Cr.frm r (k + 1)) ∧ Below base w w2) := ⟨HN.out v' w2 hown', hb2.grown hgrow hbw (fun q hq => (hraw.lt q hq).1)⟩
        clear hown' hgrow hraw HN
        go_wp2_with fail
        go_roundw
        case rel => exact ⟨k + 1, by omega, by go_num, Lib.hid R.out.1, Lib.hid R.out.2⟩
        case measure => simp [intOf]; omega
    · obtain rfl : k = C := by omega
      go_wp2_with fail
      go_ret
      refine ⟨_, rfl, ?_, HB.out⟩
      rw [HF.out]; exact HO.out

end Go.Proofs.YtfeconankopjmaaGreatDoor

/- The walk of frame.Write. -/
namespace Go.Proofs.YtfeconankopjmaaGreatDoor
open Go.RowKit

/-- Is no record too long? -/
def shortS (ss : List ByteArray) : Bool := ss.all fun s => decide (s.size ≤ 524288)
/-- What Write answers. -/
def wrV (ss : List ByteArray) : Value := if shortS ss = true then .tuple #[.string ⟨(Cr.frames ss).toArray⟩, .int .i64 0] else .tuple #[.string ⟨#[]⟩, .int .i64 3]
/-- How many cells records have. -/
def cellsS (ss : List ByteArray) : Nat := (ss.map Cr.cells).sum

theorem shortS_iff {ss : List ByteArray} : shortS ss = true ↔ ∀ s ∈ ss, s.size ≤ 524288 := by
  unfold shortS; simp
theorem wrV_ok {ss : List ByteArray} (h : ∀ s ∈ ss, s.size ≤ 524288) : wrV ss = .tuple #[.string ⟨(Cr.frames ss).toArray⟩, .int .i64 0] := by
  unfold wrV; rw [if_pos (shortS_iff.2 h)]
theorem wrV_long {ss : List ByteArray} {s : ByteArray} (hs : s ∈ ss) (h : 524288 < s.size) : wrV ss = .tuple #[.string ⟨#[]⟩, .int .i64 3] := by
  unfold wrV; rw [if_neg (fun hc => by have := shortS_iff.1 hc s hs; omega)]
theorem frames_length (ss : List ByteArray) : (Cr.frames ss).length = 32 * cellsS ss := by
  induction ss with
  | nil => rfl
  | cons s ss ih => rw [Cr.frames_cons, List.length_append, ih, Cr.frame_length]; unfold cellsS; rw [List.map_cons, List.sum_cons]; omega
theorem getD_at {ss : List ByteArray} {k : Nat} (h : k < ss.length) : ss.getD k ByteArray.empty = ss[k] := by simp [h]
theorem cellsS_snoc {ss : List ByteArray} {k : Nat} (h : k < ss.length) : cellsS (ss.take (k + 1)) = cellsS (ss.take k) + Cr.cells (ss.getD k ByteArray.empty) := by
  rw [List.take_succ_eq_append_getElem h, getD_at h]; unfold cellsS; simp only [List.map_append, List.map_cons, List.map_nil, List.sum_append, List.sum_cons, List.sum_nil, Nat.add_zero]
theorem frames_snoc {ss : List ByteArray} {k : Nat} (h : k < ss.length) : Cr.frames (ss.take (k + 1)) = Cr.frames (ss.take k) ++ Cr.frame (ss.getD k ByteArray.empty) := by
  rw [List.take_succ_eq_append_getElem h, getD_at h, Cr.frames_append, Cr.frames_one]
theorem cellsS_le {ss : List ByteArray} (h : ∀ s ∈ ss, s.size ≤ 524288) : cellsS ss ≤ 21846 * ss.length := by
  induction ss with
  | nil => exact Nat.zero_le _
  | cons s ss ih =>
    have h1 := cells_small (h s (List.mem_cons_self ..))
    have h2 := ih (fun x hx => h x (List.mem_cons_of_mem _ hx))
    unfold cellsS at h2 ⊢
    rw [List.map_cons, List.sum_cons, List.length_cons]; omega

set_option maxHeartbeats 1000000 in
theorem write_any (ao : Option Addr) (len cap : Nat) (ss : List ByteArray) (w : World) (hV : SeesS w (.slice ao len cap) ss) (hT : Tab w) (hz : ∀ s ∈ ss, s.size ≤ 9223372036854775807) (hl : len ≤ 1000000) :
    Calls Tryz.prog 44 #[.slice ao len cap] w (Gives (wrV ss) w) := by
  obtain ⟨hlen, b, off, hcell⟩ := hV.get
  clear hV
  have HC := Lib.hid hcell; clear hcell
  have HZ := Lib.hid hz; clear hz
  have h0 := hT.lt
  have HT := Lib.hid hT; clear hT
  have HLEN := Lib.hid hlen; clear hlen
  obtain ⟨V, hV⟩ : ∃ V, V = wrV ss := ⟨_, rfl⟩
  rw [← hV]
  have HV := Lib.hid hV; clear hV
  go_enter Tryz.func44, Tryz.ntmps44
  go_wp2_with fail
  go_loop [4, 12] (fun n i => ∃ k q : Nat, k ≤ len ∧ i = .int .i64 k ∧ n = .int .i64 q ∧ q ≤ 21846 * k ∧ Hid (q = cellsS (ss.take k)) ∧ Hid (∀ i, i < k → (ss.getD i ByteArray.empty).size ≤ 524288)) (fun _ i => len - (intOf i).toNat)
  case atStart => exact ⟨0, 0, Nat.zero_le _, rfl, rfl, Nat.zero_le _, rfl, Lib.hid (fun i hi => by omega)⟩
  case round =>
    obtain ⟨k, q, hk, rfl, rfl, hq, HQ, HS⟩ := hrel
    by_cases hlt : k < len
    · obtain ⟨ha, hb, hc⟩ := HC.out k hlt
      have hk' : k < ss.length := by have := HLEN.out; omega
      have hsz : (ss.getD k ByteArray.empty).size ≤ 9223372036854775807 := by
        rw [getD_at hk']; exact HZ.out _ (List.getElem_mem hk')
      subst ha
      by_cases hlong : 524288 < (ss.getD k ByteArray.empty).size
      · have HE : Hid (V = .tuple #[.string ⟨#[]⟩, .int .i64 3]) := by
          rw [HV.out]
          exact Lib.hid (wrV_long (List.getElem_mem hk') (by rw [← getD_at hk']; exact hlong))
        clear hk'
        generalize ss.getD k ByteArray.empty = s at *
        go_wp2_with fail
        go_ret2
        rw [HE.out]
        exact ⟨rfl, Below.refl _ _⟩
      · have hsm : (ss.getD k ByteArray.empty).size ≤ 524288 := by omega
        have HU : Hid (cellsS (ss.take (k + 1)) = q + Cr.cells (ss.getD k ByteArray.empty)) := by rw [cellsS_snoc hk', HQ.out]; exact Lib.hid rfl
        have HS2 : Hid (∀ i, i < k + 1 → (ss.getD i ByteArray.empty).size ≤ 524288) := Lib.hid (fun i hi => by
          by_cases e : i = k
          · rw [e]; exact hsm
          · exact HS.out i (by omega))
        clear hk' hlong HS hsz
        generalize ss.getD k ByteArray.empty = s at *
        go_wp2_with fail
        refine (cellsOf_any s _ (by omega)).mono ?_
        rintro e w' ⟨rfl, rfl⟩
        have hcs := cells_small hsm
        generalize Cr.cells s = c at *
        go_wp2_with fail
        go_round
        case rel => exact ⟨k + 1, q + c, by omega, by go_num, by go_num, by omega, HU.symm, HS2⟩
        case measure => simp [intOf]; omega
    · obtain rfl : len = k := by omega
      have hall : ∀ s ∈ ss, s.size ≤ 524288 := by
        intro s hs
        obtain ⟨i, hi, rfl⟩ := List.mem_iff_getElem.1 hs
        rw [← getD_at hi]
        exact HS.out i (by have := HLEN.out; omega)
      have HE : Hid (V = .tuple #[.string ⟨(Cr.frames ss).toArray⟩, .int .i64 0]) := by rw [HV.out]; exact Lib.hid (wrV_ok hall)
      have HALL := Lib.hid hall; clear hall HV HS
      obtain ⟨M, hmk, hown⟩ := make_owns w (q * 32) (by omega) w.heap.size (Nat.le_refl _)
      have HO := Lib.hid hown; clear hown
      have hq32 : ((q : Int) * 32) = ((q * 32 : Nat) : Int) := by omega
      rw [← hq32] at hmk
      have HQ2 := Lib.hid hq
      have hq2 : (q : Int) ≤ 21846000000 := by omega
      clear hq hq32 HQ
      have HB1 : Hid (Below w.heap.size w (w.alloc (.cells M 5))) := (Below.refl _ _).alloc (Nat.le_refl _) _
      go_wp2_with fail
      clear hmk
      generalize w.alloc (.cells M 5) = w1 at *
      generalize hv0 : Value.slice (some ⟨w.heap.size, 0, none⟩) 0 (q * 32) = v0 at *
      clear hv0
      go_loopw [7, 29] (fun u i wr => ∃ k : Nat, k ≤ len ∧ i = .int .i64 k ∧ Hid (Owns wr w.heap.size u (Cr.frames (ss.take k))) ∧ Hid (Below w.heap.size w wr)) (fun _ i _ => len - (intOf i).toNat)
      case atStart => exact ⟨0, Nat.zero_le _, rfl, by rw [List.take_zero]; exact HO, HB1⟩
      case round =>
        obtain ⟨k, hk, rfl, HO2, HB2⟩ := hrel
        clear HO HB1
        by_cases hlt : k < len
        · obtain ⟨ha, hb, hc⟩ := HC.out k hlt
          have hk' : k < ss.length := by have := HLEN.out; omega
          have hsz : (ss.getD k ByteArray.empty).size ≤ 524288 := by
            rw [getD_at hk']; exact HALL.out _ (List.getElem_mem hk')
          have hc2 := (HB2.out.cell (p := ⟨b, off + k, none⟩) hb).trans hc
          have HN : Hid (Cr.frames (ss.take (k + 1)) = Cr.frames (ss.take k) ++ Cr.frame (ss.getD k ByteArray.empty)) := frames_snoc hk'
          have HFL : Hid ((Cr.frames (ss.take k)).length ≤ 1099511627776) := by
            rw [frames_length]
            have h1 := cellsS_le (fun s hs => HALL.out s (List.mem_of_mem_take (i := k) hs))
            rw [List.length_take] at h1
            exact Lib.hid (by omega)
          have HBS : Hid (w.heap.size ≤ wr.heap.size) := HB2.out.size
          subst ha
          clear hc hk'
          generalize ss.getD k ByteArray.empty = s at *
          generalize Cr.frames (ss.take k) = F at *
          go_wp2_with fail
          refine (appendFrame_any w.heap.size _ F s _ HO2.out h0 HBS.out (HT.out.belowB h0 HB2.out) HFL.out hsz).mono ?_
          rintro e w2 ⟨v2, rfl, ho2, hb2⟩
          have HO3 := Lib.hid ho2; have HB3 : Hid (Below w.heap.size w w2) := Lib.hid (HB2.out.trans hb2)
          clear ho2 hb2 HO2 HB2
          go_wp2_with fail
          go_roundw
          case rel => exact ⟨k + 1, by omega, by go_num, by rw [HN.out]; exact HO3, HB3⟩
          case measure => simp [intOf]; omega
        · obtain rfl : len = k := by omega
          have hcv := HO2.out.convert
          rw [List.take_of_length_le (by have := HLEN.out; omega)] at hcv
          go_wp2_with fail
          go_ret2
          rw [HE.out]
          exact ⟨rfl, HB2.out⟩

end Go.Proofs.YtfeconankopjmaaGreatDoor

/- The walk of frame.firstRecord. -/
namespace Go.Proofs.YtfeconankopjmaaGreatDoor
open Go.RowKit

/-- What firstRecord answers. -/
def frV (o : Option (ByteArray × Nat)) : Value := match o with
  | some (r, k) => .tuple #[.string r, .int .i64 (32 * k : Nat), .bool true]
  | none => .tuple #[.string ⟨#[]⟩, .int .i64 0, .bool false]

theorem drop_take (s : ByteArray) (a b : Nat) : (s.extract a (a + b)).data.toList = (s.data.toList.drop a).take b := by
  rw [Cr.extract_list, Nat.add_sub_cancel_left]

set_option maxRecDepth 100000 in
set_option maxHeartbeats 2000000 in
theorem firstRecord_any (s : ByteArray) (w : World) (hT : Tab w) (hs : s.size ≤ 1000000000) :
    Calls Tryz.prog 143 #[.string s] w (Gives (frV (Cr.frl s.data.toList)) w) := by
  obtain ⟨i0, hi, hz0, hz1, hz2⟩ := info_parts info_u8
  have h0 := hT.lt
  have HT := Lib.hid hT; clear hT
  obtain ⟨R, hR⟩ : ∃ R, R = Cr.frl s.data.toList := ⟨_, rfl⟩
  rw [← hR]
  have HR0 : Hid (R = Cr.scan (s.data.toList.drop (32 * 0)) 0 []) := hR
  clear hR
  go_enter Tryz.func143, Tryz.ntmps143
  go_wp2_with fail
  go_loopw [3, 5, 6] (fun z u n wr => ∃ (k : Nat) (D : List UInt8), 32 * k ≤ s.size ∧ z = .int .i64 (32 * (k : Int)) ∧ n = .int .i64 k ∧ Hid (Owns wr w.heap.size u D) ∧ D.length ≤ 524288 ∧ Hid (R = Cr.scan (s.data.toList.drop (32 * k)) k D) ∧ Hid (Below w.heap.size w wr)) (fun z _ _ _ => s.size - (intOf z).toNat)
  case atStart => exact ⟨0, [], by omega, rfl, rfl, Lib.hid (Owns.nil _ _), by simp, HR0, Lib.hid (Below.refl _ _)⟩
  case round =>
    obtain ⟨k, D, hk, rfl, rfl, HO, hD, HR, HB⟩ := hrel
    clear HR0
    have HBS : Hid (w.heap.size ≤ wr.heap.size) := HB.out.size
    by_cases hlt : s.size < 32 * k + 32
    · have HE : Hid (R = none) := by rw [HR.out]; exact Lib.hid (Cr.scan_short (by rw [List.length_drop, Cr.size_list]; omega) _ _)
      go_wp2_with fail
      go_ret3
      rw [HE.out]
      exact ⟨rfl, HB.out⟩
    · have hle : 32 * k + 32 ≤ s.size := by omega
      have hT2 : Tab wr := HT.out.belowB h0 HB.out
      have hrd := cellRead_any (s.extract (32 * k) (32 * k + 32)) wr hT2
      have HX : Hid ((s.extract (32 * k) (32 * k + 32)).data.toList = (s.data.toList.drop (32 * k)).take 32) := drop_take s _ _
      have HLD : Hid (32 ≤ (s.data.toList.drop (32 * k)).length) := by rw [List.length_drop, Cr.size_list]; exact Lib.hid (by omega)
      go_wp2_with fail
      refine hrd.mono ?_
      rintro e w1 ⟨rfl, hb1⟩
      clear hrd
      have HO1 : Hid (Owns w1 w.heap.size u5 D) := HO.out.kept hb1
      have HB1 : Hid (Below w.heap.size w w1) := Lib.hid (HB.out.trans (hb1.mono HBS.out))
      clear hb1 hT2
      cases hrdl : Cr.rd ((s.data.toList.drop (32 * k)).take 32) with
      | none =>
        have HE : Hid (R = none) := by rw [HR.out]; exact Lib.hid (Cr.scan_none hrdl _ _)
        have HV : Hid (rdV (s.extract (32 * k) (32 * k + 32)) = noV) := by unfold rdV; rw [HX.out, hrdl]; exact Lib.hid rfl
        rw [HV.out]
        unfold noV
        clear HX HV hrdl
        go_wp2_with fail
        go_ret3
        rw [HE.out]
        exact ⟨rfl, Below.next_alloc HB1.out _⟩
      | some c =>
        obtain ⟨hmay, _, _⟩ := Cr.rd_some hrdl
        have hd24 := Cr.may_size hmay
        obtain ⟨hn0, hn1⟩ := Cr.may_num hmay
        have HV : Hid (rdV (s.extract (32 * k) (32 * k + 32)) = .tuple #[clV c, .bool true]) := by unfold rdV; rw [HX.out, hrdl]; exact Lib.hid rfl
        rw [HV.out]
        clear HX HV hmay
        have HRDL := Lib.hid hrdl; clear hrdl
        have HB2 : Hid (∀ o, Below w.heap.size w (w1.alloc o)) := Lib.hid (fun o => Below.next_alloc HB1.out o)
        have HO2 : Hid (∀ o, Owns (w1.alloc o) w.heap.size u5 D) := Lib.hid (fun o => HO1.out.kept ((Below.refl _ _).alloc (Nat.le_refl _) _))
        obtain ⟨f, l, n, d⟩ := c
        unfold clV
        dsimp only at hd24 hn0 hn1 ⊢
        by_cases hnk : n = (k : Int)
        · subst hnk
          have hds : (D ++ d.data.toList).length = D.length + d.size := by rw [List.length_append, Cr.size_list]
          have HLT : Hid (∀ q, u5.ownBlock = some q → q < w1.heap.size) := Lib.hid (fun q hq => (World.ownsRow.lt HO1.out q hq).2)
          have hraw : ∀ o, (w1.alloc o).ownsRow w.heap.size 5 1 u5 D.length (Lib.byteCells D) := fun o => HO2.out o
          have HBW : Hid (w.heap.size ≤ w1.heap.size) := HB1.out.size
          have hsd : D.length + d.size ≤ 524312 := by omega
          have HDS := Lib.hid hds; have HDL := Lib.hid hsd
          clear hds hsd HO2 HO HB
          go_wp2_with (at_builtin; go_must (refine Lib.wpList_append_own_string _ rfl _ _ 128 9 rfl w.heap.size 5 i0 Tryz.underlying128 Tryz.underlying9 hi hz0 hz1 hz2 _ _ _ rfl (hraw _) d rfl ?c3 ?c4 ?c5 ?_))
          case c3 => have := HDL.out; unfold maxLen; omega
          case c4 => have := HDL.out; omega
          case c5 => have := HBW.out; simp; omega
          intro v' w2 hown' hgrow _
          have hcl : w2.cell? ⟨w1.heap.size, 1, none⟩ = some (.bool l) := by
            refine (World.cell?_of_block (hgrow.block w1.heap.size (by simp) (fun e => ?_))).trans ?_
            · have := HLT.out w1.heap.size e.symm
              omega
            · rw [World.cell?_alloc_mark]; rfl
          have HW : Hid (Owns w2 w.heap.size v' (D ++ d.data.toList) ∧ Below w.heap.size w w2) := ⟨Owns.cat hown', (HB2.out _).grown hgrow (by have := HBW.out; simp; omega) (fun q hq => (World.ownsRow.lt HO1.out q hq).1)⟩
          obtain ⟨va, vc, hva⟩ := HW.out.1.shape
          rw [HDS.out] at hva
          subst hva
          clear hown' hgrow hraw HB2 HO1 HLT HB1
          by_cases hlong : 524288 < D.length + d.size
          · have HE : Hid (R = none) := by rw [HR.out]; exact Lib.hid (Cr.scan_bad HRDL.out (Or.inr hlong))
            have hlong2 : (524288 : Int) < (D.length : Int) + (d.size : Int) := by omega
            clear hlong
            go_wp2_with fail
            go_ret3
            rw [HE.out]
            exact ⟨rfl, HW.out.2⟩
          · have hsh : D.length + d.size ≤ 524288 := by omega
            have hsh2 : (D.length : Int) + (d.size : Int) ≤ 524288 := by omega
            have HSH := Lib.hid hsh
            clear hlong hsh
            cases l with
            | true =>
              have HE : Hid (R = some (⟨(D ++ d.data.toList).toArray⟩, k + 1)) := by rw [HR.out]; exact Lib.hid (Cr.scan_last HLD.out HRDL.out rfl HSH.out rfl)
              have hcv := HW.out.1.convert
              go_wp2_with fail
              go_ret3
              rw [HE.out]
              refine ⟨?_, HW.out.2⟩
              have e : 32 * (k : Int) + 32 = ((32 * (k + 1) : Nat) : Int) := by omega
              exact congrArg (fun z => Ending.returned (.tuple #[.string ⟨(D ++ d.data.toList).toArray⟩, .int .i64 z, .bool true])) e
            | false =>
              have HE : Hid (R = Cr.scan (s.data.toList.drop (32 * (k + 1))) (k + 1) (D ++ d.data.toList)) := by
                rw [HR.out, Cr.scan_more HLD.out HRDL.out rfl HSH.out rfl, List.drop_drop]; exact Lib.hid (by rw [Nat.mul_add])
              go_wp2_with fail
              go_roundw
              case rel => exact ⟨k + 1, D ++ d.data.toList, by omega, by go_num, by go_num, Lib.hid HW.out.1, by rw [HDS.out]; exact HSH.out, HE, Lib.hid HW.out.2⟩
              case measure => simp [intOf]; omega
        · have HE : Hid (R = none) := by rw [HR.out]; exact Lib.hid (Cr.scan_bad HRDL.out (Or.inl hnk))
          have hne : (n == (k : Int)) = false := by rw [beq_eq_false_iff_ne]; exact hnk
          clear hnk
          go_wp2_with fail
          go_ret3
          rw [HE.out]
          exact ⟨rfl, HB2.out _⟩

end Go.Proofs.YtfeconankopjmaaGreatDoor

/- The walk of frame.Read. -/
namespace Go.Proofs.YtfeconankopjmaaGreatDoor
open Go.RowKit

theorem drop_list (s : ByteArray) (a : Nat) : (s.extract a s.size).data.toList = s.data.toList.drop a := by
  rw [Cr.extract_list, List.take_of_length_le (by rw [List.length_drop, Cr.size_list]; exact Nat.le_refl _)]

/-- Records were read. -/
def RecsRead (p : List ByteArray × Nat) (w : World) (e : Ending) (w' : World) : Prop := ∃ v, e = .returned (.tuple #[v, .int .i64 (p.2 : Nat)]) ∧ OwnsS w' w.heap.size v p.1 ∧ Below w.heap.size w w'

set_option maxHeartbeats 1000000 in
theorem fread_any (s : ByteArray) (w : World) (hT : Tab w) (hs : s.size ≤ 1000000000) :
    Calls Tryz.prog 100 #[.string s] w (RecsRead (Cr.rda s.data.toList) w) := by
  obtain ⟨i0, hi, hz0, hz1, hz2⟩ := info_parts info_string
  have h0 := hT.lt
  have HT := Lib.hid hT; clear hT
  obtain ⟨P, hP⟩ : ∃ P, P = Cr.rda s.data.toList := ⟨_, rfl⟩
  rw [← hP]
  have HP0 : Hid (P = ([] ++ (Cr.rda (s.data.toList.drop 0)).1, 0 + (Cr.rda (s.data.toList.drop 0)).2)) := by rw [hP, List.drop_zero, Nat.zero_add]; exact Lib.hid rfl
  clear hP
  go_enter Tryz.func100, Tryz.ntmps100
  go_wp2_with fail
  go_loopw [2, 3] (fun u z wr => ∃ (W : Nat) (rs : List ByteArray), W ≤ s.size ∧ z = .int .i64 W ∧ Hid (OwnsS wr w.heap.size u rs) ∧ rs.length ≤ W ∧ Hid (P = (rs ++ (Cr.rda (s.data.toList.drop W)).1, W + (Cr.rda (s.data.toList.drop W)).2)) ∧ Hid (Below w.heap.size w wr)) (fun _ z _ => s.size - (intOf z).toNat)
  case atStart => exact ⟨0, [], Nat.zero_le _, rfl, Lib.hid (OwnsS.nil _ _), Nat.le_refl _, HP0, Lib.hid (Below.refl _ _)⟩
  case round =>
    obtain ⟨W, rs, hW, rfl, HO, hrs, HP, HB⟩ := hrel
    clear HP0
    have HBS : Hid (w.heap.size ≤ wr.heap.size) := HB.out.size
    have hT2 : Tab wr := HT.out.belowB h0 HB.out
    have hfr := firstRecord_any (s.extract W s.size) wr hT2 (by rw [Cr.size_extract']; omega)
    rw [drop_list] at hfr
    have HFR := Lib.hid hfr; clear hfr hT2
    go_wp2_with fail
    refine HFR.out.mono ?_
    rintro e w1 ⟨rfl, hb1⟩
    clear HFR
    have HO1 : Hid (OwnsS w1 w.heap.size u2 rs) := HO.out.kept hb1
    have HB1 : Hid (Below w.heap.size w w1) := Lib.hid (HB.out.trans (hb1.mono HBS.out))
    clear hb1 HO HB
    cases hf : Cr.frl (s.data.toList.drop W) with
    | none =>
      have HE : Hid (P = (rs, W)) := by rw [HP.out, Cr.rda_none hf, List.append_nil]; exact Lib.hid rfl
      unfold frV
      clear hf HP
      go_wp2_with fail
      go_ret2
      rw [HE.out]
      exact ⟨_, rfl, HO1.out, HB1.out⟩
    | some x =>
      obtain ⟨r, k⟩ := x
      have hk := Cr.frl_pos hf
      have hk2 := (Cr.frl_some hf).2.2.1
      rw [List.length_drop, Cr.size_list] at hk2
      have HE : Hid (P = ((rs ++ [r]) ++ (Cr.rda (s.data.toList.drop (W + 32 * k))).1, (W + 32 * k) + (Cr.rda (s.data.toList.drop (W + 32 * k))).2)) := by
        rw [HP.out, Cr.rda_some hf, List.drop_drop, List.append_assoc, Nat.add_assoc]; exact Lib.hid rfl
      unfold frV
      clear hf HP
      have hraw : w1.ownsRow w.heap.size 9 1 u2 rs.length (rs.map .string) := HO1.out
      have HBW : Hid (w.heap.size ≤ w1.heap.size) := HB1.out.size
      have HRS : Hid (rs.length ≤ 1000000000) := Lib.hid (by omega)
      go_wp2_with (at_builtin; go_must (refine wpList_append_own _ rfl _ _ 99 rfl w.heap.size 9 i0 _ 1 16 Tryz.underlying99 hi hz0 hz1 hz2 rfl (by decide) _ _ _ rfl (hraw.alloc _) ⟨w1.heap.size, 0, none⟩ 1 1 [_] rfl rfl (cell_one_new _ _ _) ?c2 ?c3 ?c4 ?c5 ?_))
      case c2 => intro u hu; simp at hu; subst hu; rfl
      case c3 => have := HRS.out; unfold maxLen; omega
      case c4 => have := HRS.out; omega
      case c5 => have := HBW.out; simp; omega
      intro v2 w2 hown2 hgrow2 _
      have HW : Hid (OwnsS w2 w.heap.size v2 (rs ++ [r]) ∧ Below w.heap.size w w2) :=
        ⟨OwnsS.snoc hown2, ((Below.next_alloc HB1.out _)).grown hgrow2 (by have := HBW.out; simp; omega) (fun q hq => (hraw.lt q hq).1)⟩
      clear hown2 hgrow2 hraw HB1 HO1
      go_wp2_with fail
      go_roundw
      case rel => exact ⟨W + 32 * k, rs ++ [r], by omega, by go_num, Lib.hid HW.out.1, by rw [List.length_append, List.length_singleton]; omega, HE, Lib.hid HW.out.2⟩
      case measure => simp [intOf]; omega

end Go.Proofs.YtfeconankopjmaaGreatDoor
