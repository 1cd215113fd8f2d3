/- The walk of edit.coming. -/
import Derived.Test.YtbdoekogoiijeaaEdI
namespace Go.Proofs.Ytbdoekogoiijeaa
open Go.RowKit Sk Go.Maps
set_option linter.unusedVariables false
set_option maxRecDepth 20000

/-- Edits that are within bounds. -/
def Ed.Calm (es : List Edt) : Prop := es.length ≤ 100000 ∧ ∀ e ∈ es, e.add.length ≤ 100000 ∧ e.drop.length ≤ 100000 ∧ Ed.In e ∧ ∀ t ∈ e.add, t.first.size ≤ 1000000000 ∧ t.last.size ≤ 1000000000
theorem ed_mem {es : List Edt} {k : Nat} (h : k < es.length) : es.getD k edd ∈ es := by
  have e : es.getD k edd = es[k] := by simp [h]
  rw [e]; exact List.getElem_mem h
theorem u_mem {l : List Nat} {k : Nat} (h : k < l.length) : l.getD k 0 ∈ l := by
  have e : l.getD k 0 = l[k] := by simp [h]
  rw [e]; exact List.getElem_mem h
theorem take_snocE (es : List Edt) (k : Nat) (h : k < es.length) : es.take (k + 1) = es.take k ++ [es.getD k edd] := by
  have e : es.getD k edd = es[k] := by simp [h]
  rw [List.take_succ_eq_append_getElem h, e]
theorem take_snocU (l : List Nat) (k : Nat) (h : k < l.length) : l.take (k + 1) = l.take k ++ [l.getD k 0] := by
  have e : l.getD k 0 = l[k] := by simp [h]
  rw [List.take_succ_eq_append_getElem h, e]
theorem take_snocT (l : List Tbl) (k : Nat) (h : k < l.length) : l.take (k + 1) = l.take k ++ [l.getD k tbd] := by
  have e : l.getD k tbd = l[k] := by simp [h]
  rw [List.take_succ_eq_append_getElem h, e]

/-- The two texts of a table's box. -/
abbrev Cl (w : World) (B : Nat) (f l : ByteArray) : Prop := w.cell? ⟨B, 4, none⟩ = some (.string f) ∧ w.cell? ⟨B, 5, none⟩ = some (.string l) ∧ w.frozen? ⟨B, 4, none⟩ = false ∧ w.frozen? ⟨B, 5, none⟩ = false
theorem Cl.set4 {w : World} {B : Nat} {f l : ByteArray} (h : Cl w B f l) : Cl (w.setCell ⟨B, 4, none⟩ (.string f)) B f l :=
  ⟨World.cell?_setCell_same _ _ _ h.1, (World.cell?_setCell_other _ _ _ _ (by simp)).trans h.2.1, by rw [World.frozen?_setCell]; exact h.2.2.1, by rw [World.frozen?_setCell]; exact h.2.2.2⟩
theorem Cl.set5 {w : World} {B : Nat} {f l : ByteArray} (h : Cl w B f l) : Cl (w.setCell ⟨B, 5, none⟩ (.string l)) B f l :=
  ⟨(World.cell?_setCell_other _ _ _ _ (by simp)).trans h.1, World.cell?_setCell_same _ _ _ h.2.1, by rw [World.frozen?_setCell]; exact h.2.2.1, by rw [World.frozen?_setCell]; exact h.2.2.2⟩
theorem Cl.of {w w' : World} {B : Nat} {f l : ByteArray} (h : Cl w B f l) {b : Nat} (hb : Below b w w') (hB : B < b) : Cl w' B f l :=
  ⟨(hb.cell (p := ⟨B, 4, none⟩) hB).trans h.1, (hb.cell (p := ⟨B, 5, none⟩) hB).trans h.2.1, (hb.frozen (p := ⟨B, 4, none⟩) hB).trans h.2.2.1, (hb.frozen (p := ⟨B, 5, none⟩) hB).trans h.2.2.2⟩

set_option maxHeartbeats 4000000 in
theorem clone_tb (t : Tbl) (w : World) (h1 : t.first.size ≤ 281474976710656) (h2 : t.last.size ≤ 281474976710656) :
    Calls Try.prog 73 #[tbV t] w (Gives (tbV t) w) := by
  obtain ⟨n, lv, ct, sz, f, l, le, mo⟩ := t
  dsimp only at h1 h2
  unfold tbV
  dsimp only
  have HS1 : Hid (∀ W, Calls Try.prog 79 #[.string f] W (Gives (.string f) W)) := Lib.hid (fun W => clone_any f W h1)
  have HS2 : Hid (∀ W, Calls Try.prog 79 #[.string l] W (Gives (.string l) W)) := Lib.hid (fun W => clone_any l W h2)
  have hw0 : Below w.heap.size w ((w.alloc (.cells #[.int .u64 (n : Nat), .int .i64 lv, .int .i64 ct, .int .i64 sz, .string f, .string l, .int .u64 (le : Nat), .int .u64 (mo : Nat)] 38)).alloc (.cells #[.int .u64 0, .int .i64 0, .int .i64 0, .int .i64 0, .string ⟨#[]⟩, .string ⟨#[]⟩, .int .u64 0, .int .u64 0] 38)) := Below.next_alloc ((Below.refl _ _).alloc (Nat.le_refl _) _) _
  have hx0 : Tx ((w.alloc (.cells #[.int .u64 (n : Nat), .int .i64 lv, .int .i64 ct, .int .i64 sz, .string f, .string l, .int .u64 (le : Nat), .int .u64 (mo : Nat)] 38)).alloc (.cells #[.int .u64 0, .int .i64 0, .int .i64 0, .int .i64 0, .string ⟨#[]⟩, .string ⟨#[]⟩, .int .u64 0, .int .u64 0] 38)) w.heap.size n lv ct sz f l le mo := heap_alloc2_old _ _ _
  have hy0 : Tx ((w.alloc (.cells #[.int .u64 (n : Nat), .int .i64 lv, .int .i64 ct, .int .i64 sz, .string f, .string l, .int .u64 (le : Nat), .int .u64 (mo : Nat)] 38)).alloc (.cells #[.int .u64 0, .int .i64 0, .int .i64 0, .int .i64 0, .string ⟨#[]⟩, .string ⟨#[]⟩, .int .u64 0, .int .u64 0] 38)) (w.heap.size + 1) 0 0 0 0 ⟨#[]⟩ ⟨#[]⟩ 0 0 := heap_alloc2_new _ _ _
  clear h1 h2
  go_enter Try.func73, Try.ntmps73
  go_wp2_with fail
  generalize ((w.alloc (.cells #[.int .u64 (n : Nat), .int .i64 lv, .int .i64 ct, .int .i64 sz, .string f, .string l, .int .u64 (le : Nat), .int .u64 (mo : Nat)] 38)).alloc (.cells #[.int .u64 0, .int .i64 0, .int .i64 0, .int .i64 0, .string ⟨#[]⟩, .string ⟨#[]⟩, .int .u64 0, .int .u64 0] 38)) = W at *
  have HX0 := Lib.hid hx0; have HY0 := Lib.hid hy0; have HW0 := Lib.hid hw0
  obtain ⟨a0, a1, a2, a3, a4, a5, a6, a7, af, alt⟩ := hx0.of
  have af4 := af 4
  have af5 := af 5
  clear hx0 hy0 hw0 a0 a1 a2 a3 a6 a7 af
  have HC0 : Hid (Cl W w.heap.size f l) := Lib.hid ⟨a4, a5, af4, af5⟩
  have HK1 : Hid (∀ w1, Below W.drew.heap.size W.drew w1 → Cl w1 w.heap.size f l ∧ w.heap.size < w1.heap.size) := Lib.hid (fun w1 hb => ⟨Cl.of (w := W.drew) HC0.out hb alt, Nat.lt_of_lt_of_le alt hb.size⟩)
  have HK2 : Hid (∀ w1 w2, Below W.drew.heap.size W.drew w1 → Below w1.heap.size w1 w2 → Cl w2 w.heap.size f l) := Lib.hid (fun w1 w2 hb h2 => Cl.of (HK1.out w1 hb).1 h2 (HK1.out w1 hb).2)
  go_region_held3 (fun w' => Cl w' w.heap.size f l)
    (first
      | exact Cl.set4 (HK2.out _ _ hb1 hb2)
      | exact Cl.set5 (Cl.set4 (HK2.out _ _ hb1 hb2))
      | exact Cl.set4 (Cl.set5 (HK2.out _ _ hb1 hb2))
      | exact Cl.set5 (HK2.out _ _ hb1 hb2)
      | go_keep
      | exact HC0.out
      | exact HK2.out _ _ hb1 hb2
      | exact (HK1.out _ hb1).1)
    (first
      | (go_at_call 79; (with_reducible refine (HS1.out _).mono ?_); rintro e w1 ⟨rfl, hb1⟩)
      | (go_at_call 79; (with_reducible refine (HS2.out _).mono ?_); rintro e w2 ⟨rfl, hb2⟩))
  all_goals
    have HX2 : Hid (Tx w2 w.heap.size n lv ct sz f l le mo) := Lib.hid (kept_block (kept_block (w := W.drew) HX0.out hb1) hb2)
    have HY2 : Hid (Tx w2 (w.heap.size + 1) 0 0 0 0 ⟨#[]⟩ ⟨#[]⟩ 0 0) := Lib.hid (kept_block (kept_block (w := W.drew) HY0.out hb1) hb2)
    have HB2 : Hid (Below w.heap.size w w2) := Lib.hid (Below.next (Below.next (w1 := W.drew) HW0.out.drew hb1) hb2)
    have HX3 : Hid (Tx (w2.setCell ⟨w.heap.size, 4, none⟩ (.string f)) w.heap.size n lv ct sz f l le mo) := Lib.hid (heap_setCell_same _ _ 4 _ _ _ HX2.out)
    have HX4 : Hid (Tx ((w2.setCell ⟨w.heap.size, 4, none⟩ (.string f)).setCell ⟨w.heap.size, 5, none⟩ (.string l)) w.heap.size n lv ct sz f l le mo) := Lib.hid (heap_setCell_same _ _ 5 _ _ _ HX3.out)
    have HY4 : Hid (Tx ((w2.setCell ⟨w.heap.size, 4, none⟩ (.string f)).setCell ⟨w.heap.size, 5, none⟩ (.string l)) (w.heap.size + 1) 0 0 0 0 ⟨#[]⟩ ⟨#[]⟩ 0 0) := Lib.hid ((setCell_kept _ ⟨w.heap.size, 5, none⟩ _ (by simp)).trans ((setCell_kept _ ⟨w.heap.size, 4, none⟩ _ (by simp)).trans HY2.out))
    have HB4 : Hid (Below w.heap.size w ((w2.setCell ⟨w.heap.size, 4, none⟩ (.string f)).setCell ⟨w.heap.size, 5, none⟩ (.string l))) := Lib.hid ((HB2.out.setCell (Nat.le_refl _) _).setCell (Nat.le_refl _) _)
    clear hb1 hb2 a4 a5 af4 af5 alt
    generalize (w2.setCell ⟨w.heap.size, 4, none⟩ (.string f)).setCell ⟨w.heap.size, 5, none⟩ (.string l) = w4 at *
    clear HX3 HX2 HY2 HB2 HC0 HK1 HK2 HX0 HY0 HW0
    obtain ⟨c0, c1, c2, c3, c4, c5, c6, c7, cf, clt⟩ := HX4.out.of
    obtain ⟨r0, r1, r2, r3, r4, r5, r6, r7, rf, rlt⟩ := HY4.out.of
    go_wp2_with fail
    refine Tx.fill (P := bodyPost _ _ _ _ _) HY4.out n lv ct sz f l le mo ?_
    intro wF hF hTF
    have HBF : Hid (Below w.heap.size w wF) := Lib.hid (HB4.out.trans (hTF.to_below HB4.out.size (fun k hk => by rw [show k = w.heap.size + 1 from hk]; omega)))
    clear c0 c1 c2 c3 c4 c5 c6 c7 cf clt r0 r1 r2 r3 r4 r5 r6 r7 rf rlt
    obtain ⟨r0, r1, r2, r3, r4, r5, r6, r7, rf, rlt⟩ := hF.of
    exact bodyPost_ret (v := .agg #[.int .u64 (n : Nat), .int .i64 lv, .int .i64 ct, .int .i64 sz, .string f, .string l, .int .u64 (le : Nat), .int .u64 (mo : Nat)]) (by simp [results, Try.results73, go_sem, r0, r1, r2, r3, r4, r5, r6, r7]) rfl ⟨rfl, HBF.out⟩

def Ed.comeTo (es : List Edt) (j : Nat) : List Tbl := (List.range j).flatMap (fun i => (es.getD i edd).add.filter (fun t => decide (Ed.ld es t.n ≤ i)))
theorem filter_snocT (l : List Tbl) (j : Nat) (es : List Edt) (q : Nat) (h : q < l.length) : (l.take (q + 1)).filter (fun t => decide (Ed.ld es t.n ≤ j)) = (l.take q).filter (fun t => decide (Ed.ld es t.n ≤ j)) ++ if Ed.ld es (l.getD q tbd).n ≤ j then [l.getD q tbd] else [] := by
  rw [take_snocT l q h, List.filter_append]
  generalize l.getD q tbd = t
  by_cases e : Ed.ld es t.n ≤ j
  · rw [if_pos e, List.filter_cons_of_pos (by simpa using e)]; rfl
  · rw [if_neg e, List.filter_cons_of_neg (by simpa using e)]; rfl
theorem Ed.comeTo_succ (es : List Edt) (j : Nat) : Ed.comeTo es (j + 1) = Ed.comeTo es j ++ (es.getD j edd).add.filter (fun t => decide (Ed.ld es t.n ≤ j)) := by
  unfold Ed.comeTo
  rw [List.range_succ, List.flatMap_append, List.flatMap_singleton]
theorem OwnsTb.grownOther {w w' : World} {base : Nat} {v : Value} {ts : List Tbl} {B : Nat} (h : OwnsTb w base v ts) (hg : w.grownBy w' (some B)) (hB : B < base) : OwnsTb w' base v ts :=
  Sk.ownsRow_frame h (fun k hk => hg.block k (Sk.ownsRow_lt h hk) (fun e => by have := (World.ownsRow.lt h k hk).1; cases e; omega))

set_option maxHeartbeats 8000000 in
theorem coming_any (ao : Option Addr) (an ac : Nat) (es : List Edt) (w : World) (hS : SeesEd w (.slice ao an ac) es) (hC : Ed.Calm es) :
    Calls Try.prog 47 #[.slice ao an ac] w (fun e w' => ∃ v, e = .returned v ∧ OwnsTb w' w.heap.size v (Ed.coming es) ∧ Below w.heap.size w w') := by
  obtain ⟨hal, ba, oa, hac⟩ := hS.get
  obtain ⟨hc1, hc2⟩ := hC
  obtain ⟨i0, hi, hz0, hz1, hz2⟩ := info_parts info_tb
  have hmm := @run_makeMap Try.prog
  have HAC := Lib.hid hac; have HAL := Lib.hid hal; have HC2 := Lib.hid hc2
  have hal2 : an ≤ 100000 := by omega
  have HM0 := Lib.hid (IMap.made w)
  have HB0 : Hid (Below w.heap.size w (w.alloc (.map #[] 0))) := Lib.hid ((Below.refl _ _).alloc (Nat.le_refl _) _)
  have hlt0 : w.heap.size < (w.alloc (.map #[] 0)).heap.size := by simp
  clear hac hal hc1 hc2 hS
  go_enter Try.func47, Try.ntmps47
  go_wp2_with fail
  generalize w.alloc (.map #[] 0) = W at *
  go_loopw [16] (fun i wr => ∃ k m : Nat, k ≤ an ∧ i = .int .i64 k ∧ m ≤ 100000 * k ∧ IMap wr w.heap.size m (Ed.ld (es.take k)) ∧ Below w.heap.size w wr) (fun i _ => an - (intOf i).toNat)
  case atStart => exact ⟨0, 0, Nat.zero_le _, rfl, by simp, HM0.out, HB0.out⟩
  case round =>
    obtain ⟨k, m, hk, rfl, hm, hmap, hbel⟩ := hrel
    have hsz := hbel.size
    have HBW := Lib.hid hbel
    by_cases hlt : k < an
    · obtain ⟨rfl, hbl, hob⟩ := HAC.out k hlt
      have hkl : k < es.length := by rw [HAL.out]; exact hlt
      obtain ⟨xo, xn, xc, yo, yn, yc, c0, c1, c2, c3, c4, hA, hD⟩ := hob
      have c0 := (hbel.cell (p := ⟨ba, oa + k * 5, none⟩) hbl).trans c0
      have c1 := (hbel.cell (p := ⟨ba, oa + k * 5 + 1, none⟩) hbl).trans c1
      have c2 := (hbel.cell (p := ⟨ba, oa + k * 5 + 2, none⟩) hbl).trans c2
      have c3 := (hbel.cell (p := ⟨ba, oa + k * 5 + 3, none⟩) hbl).trans c3
      have c4 := (hbel.cell (p := ⟨ba, oa + k * 5 + 4, none⟩) hbl).trans c4
      have hbr : ba < wr.heap.size := by omega
      obtain ⟨hx1, hx2, hx3⟩ := HC2.out _ (ed_mem hkl)
      have HTK : Hid (es.take (k + 1) = es.take k ++ [es.getD k edd]) := Lib.hid (take_snocE es k hkl)
      have HTL : Hid ((es.take k).length = k) := Lib.hid (by rw [List.length_take]; omega)
      clear hkl
      generalize es.getD k edd = x at *
      obtain ⟨hdl, bd, od, hdc⟩ := hD.get
      have HDC := Lib.hid hdc; have HDL := Lib.hid hdl
      have hyn : yn ≤ 100000 := by omega
      have HX3 := Lib.hid hx3.1.2.1
      have HMP : Hid (∀ o, IMap (wr.alloc o) w.heap.size m (fun y => if y ∈ x.drop.take 0 then k else Ed.ld (es.take k) y)) := Lib.hid (fun o => (hmap.below ((Below.refl _ _).alloc (Nat.le_refl _) _)).congr (fun n => by simp) (Nat.le_refl _))
      have HNB : Hid (∀ o, Below w.heap.size w (wr.alloc o)) := Lib.hid (fun o => Below.next_alloc hbel _)
      have hmlt := hmap.lt
      clear hdc hdl hA hx1 hx2 hx3 hmap hbel hD
      go_wp2_with fail
      go_loopw [24] (fun i w2 => ∃ j m' : Nat, j ≤ yn ∧ i = .int .i64 j ∧ m' ≤ 100000 * k + j ∧ IMap w2 w.heap.size m' (fun y => if y ∈ x.drop.take j then k else Ed.ld (es.take k) y) ∧ Below w.heap.size w w2) (fun i _ => yn - (intOf i).toNat)
      case atStart => exact ⟨0, m, Nat.zero_le _, rfl, by omega, HMP.out _, HNB.out _⟩
      case round =>
        obtain ⟨j, m', hj, rfl, hm', hmap2, hbel2⟩ := hrel
        have hsz2 := hbel2.size
        by_cases hjt : j < yn
        · obtain ⟨rfl, hbl2, d0⟩ := HDC.out j hjt
          have d0 := (hbel2.cell (p := ⟨bd, od + j, none⟩) hbl2).trans d0
          have hjl : j < x.drop.length := by rw [HDL.out]; exact hjt
          have HTJ : Hid (x.drop.take (j + 1) = x.drop.take j ++ [x.drop.getD j 0]) := Lib.hid (take_snocU x.drop j hjl)
          have HN : Hid (x.drop.getD j 0 < 18446744073709551616) := Lib.hid (HX3.out _ (u_mem hjl))
          have hbd : bd < wr.heap.size := by omega
          obtain ⟨D, hown, hat⟩ := hmap2
          have HAT := Lib.hid hat
          have HOW := Lib.hid hown
          have hml : m' < maxLen := by unfold maxLen; omega
          have HBE := Lib.hid hbel2
          clear hat hown hbel2 hjl
          generalize x.drop.getD j 0 = n at *
          have HK := Lib.hid (key_u64 n HN.out)
          have HV : Hid (plainElem (H := Unit) Try.prog 3 (.int .i64 (k : Nat)) = some (.lit (.int .i64 (k : Nat)), [])) := Lib.hid (plainElem_int Try.underlying3 (wf_i64 k (by omega)))
          go_wp2_with (at_mapUpdate; go_must (refine wpList_mapUpdate_own _ rfl _ _ _ 127 rfl 28 3 lawU Try.underlying127 _ w.heap.size m' D rfl HOW.out hml _ _ _ rfl rfl HK.out (.lit (.int .i64 (k : Nat))) [] HV.out ?_))
          intro w3 hown3 hg3
          have HM3 : Hid (IMap w3 w.heap.size (m' + 1) (fun y => if y ∈ x.drop.take (j + 1) then k else Ed.ld (es.take k) y)) := Lib.hid ((IMap.put hown3 HOW.out.isMap HN.out HAT.out).congr (fun y => by
            rw [HTJ.out]
            by_cases e : y = n
            · simp [e]
            · simp [e]) (Nat.le_refl _))
          have HB3 : Hid (Below w.heap.size w w3) := Lib.hid (HBE.out.grown hg3 hsz2 (fun q hq => by cases hq; exact Nat.le_refl _))
          clear hown3 hg3
          go_wp2_with fail
          go_roundw
          case rel => exact ⟨j + 1, m' + 1, by omega, by go_num, by omega, HM3.out, HB3.out⟩
          case measure => simp [intOf]; omega
        · obtain rfl : j = yn := by omega
          have HM3 : Hid (IMap wr w.heap.size m' (Ed.ld (es.take (k + 1)))) := Lib.hid (hmap2.congr (fun y => by
            rw [HTK.out, Ed.ld_snoc, HTL.out, List.take_of_length_le (by rw [HDL.out]; exact Nat.le_refl _)]) (Nat.le_refl _))
          have HB3 := Lib.hid hbel2
          clear hmap2 hbel2
          go_wp2_with fail
          go_roundw
          case rel => exact ⟨k + 1, m', by omega, by go_num, by omega, HM3.out, HB3.out⟩
          case measure => simp [intOf]; omega
    · obtain rfl : k = an := by omega
      have HM : Hid (IMap wr w.heap.size m (Ed.ld es)) := Lib.hid (hmap.congr (fun n => by rw [List.take_of_length_le (by rw [HAL.out]; exact Nat.le_refl _)]) (Nat.le_refl _))
      clear hmap hbel HM0
      go_wp2_with fail
      go_loopw [8, 35] (fun u i w2 => ∃ j : Nat, j ≤ k ∧ i = .int .i64 j ∧ OwnsTb w2 (w.heap.size + 1) u (Ed.comeTo es j) ∧ (Ed.comeTo es j).length ≤ 100000 * j ∧ IMap w2 w.heap.size m (Ed.ld es) ∧ Below w.heap.size w w2) (fun _ i _ => k - (intOf i).toNat)
      case atStart => exact ⟨0, Nat.zero_le _, rfl, OwnsTb.nil _ _, by simp [Ed.comeTo], HM.out, HBW.out⟩
      case round =>
        obtain ⟨j, hj, rfl, hown, hol, hmap, hbel⟩ := hrel
        have hsz := hbel.size
        have HO := Lib.hid hown; have HBE := Lib.hid hbel
        by_cases hlt : j < k
        · obtain ⟨rfl, hbl, hob⟩ := HAC.out j hlt
          have hkl : j < es.length := by rw [HAL.out]; exact hlt
          obtain ⟨xo, xn, xc, yo, yn, yc, c0, c1, c2, c3, c4, hA, hD⟩ := hob
          have c0 := (hbel.cell (p := ⟨ba, oa + j * 5, none⟩) hbl).trans c0
          have c1 := (hbel.cell (p := ⟨ba, oa + j * 5 + 1, none⟩) hbl).trans c1
          have c2 := (hbel.cell (p := ⟨ba, oa + j * 5 + 2, none⟩) hbl).trans c2
          have c3 := (hbel.cell (p := ⟨ba, oa + j * 5 + 3, none⟩) hbl).trans c3
          have c4 := (hbel.cell (p := ⟨ba, oa + j * 5 + 4, none⟩) hbl).trans c4
          have hbr : ba < wr.heap.size := by omega
          obtain ⟨hx1, hx2, hx3, hx4⟩ := HC2.out _ (ed_mem hkl)
          have HTK : Hid (Ed.comeTo es (j + 1) = Ed.comeTo es j ++ (es.getD j edd).add.filter (fun t => decide (Ed.ld es t.n ≤ j))) := Lib.hid (Ed.comeTo_succ es j)
          clear hkl
          generalize es.getD j edd = x at *
          obtain ⟨hdl, bd, od, hdc⟩ := hA.get
          have HDC := Lib.hid hdc; have HDL := Lib.hid hdl
          have hyn : xn ≤ 100000 := by omega
          have HX3 := Lib.hid hx3.1
          have HX4 := Lib.hid hx4
          have HMP : Hid (∀ o, IMap (wr.alloc o) w.heap.size m (Ed.ld es)) := Lib.hid (fun o => hmap.below ((Below.refl _ _).alloc (Nat.le_refl _) _))
          have HNB : Hid (∀ o, Below w.heap.size w (wr.alloc o)) := Lib.hid (fun o => Below.next_alloc hbel _)
          have HNO : Hid (∀ o, OwnsTb (wr.alloc o) (w.heap.size + 1) u8 (Ed.comeTo es j)) := Lib.hid (fun o => hown.below ((Below.refl _ _).alloc (Nat.le_refl _) _))
          generalize hCJ : Ed.comeTo es j = CJ at *
          clear hCJ hdc hdl hA hx1 hx2 hx3 hmap hbel hD hown HM HBW
          go_wp2_with fail
          go_loopw [8, 43] (fun u i w2 => ∃ q : Nat, q ≤ xn ∧ i = .int .i64 q ∧ OwnsTb w2 (w.heap.size + 1) u (CJ ++ (x.add.take q).filter (fun t => decide (Ed.ld es t.n ≤ j))) ∧ (CJ ++ (x.add.take q).filter (fun t => decide (Ed.ld es t.n ≤ j))).length ≤ 100000 * j + q ∧ IMap w2 w.heap.size m (Ed.ld es) ∧ Below w.heap.size w w2) (fun _ i _ => xn - (intOf i).toNat)
          case atStart => exact ⟨0, Nat.zero_le _, rfl, by simpa using HNO.out _, by simpa using hol, HMP.out _, HNB.out _⟩
          case round =>
            obtain ⟨q, hq, rfl, hown, hol, hmap, hbel⟩ := hrel
            have hsz := hbel.size
            by_cases hqt : q < xn
            · obtain ⟨rfl, hbl2, hob⟩ := HDC.out q hqt
              obtain ⟨e0, e1, e2, e3, e4, e5, e6, e7⟩ := hob.below hbel hbl2
              have hbd : bd < wr.heap.size := by omega
              have hql : q < x.add.length := by rw [HDL.out]; exact hqt
              obtain ⟨t1, t2⟩ := HX4.out _ (Ed.getD_mem hql)
              obtain ⟨t3, -⟩ := HX3.out _ (Ed.getD_mem hql)
              have HTQ : Hid ((x.add.take (q + 1)).filter (fun t => decide (Ed.ld es t.n ≤ j)) = (x.add.take q).filter (fun t => decide (Ed.ld es t.n ≤ j)) ++ if Ed.ld es (x.add.getD q tbd).n ≤ j then [x.add.getD q tbd] else []) := Lib.hid (filter_snocT x.add j es q hql)
              clear hob hql
              generalize x.add.getD q tbd = t at *
              generalize hF : (x.add.take q).filter (fun t => decide (Ed.ld es t.n ≤ j)) = FQ at *
              clear hF
              have HM1 : Hid (∀ o, IMap (wr.alloc o) w.heap.size m (Ed.ld es)) := Lib.hid (fun o => hmap.below ((Below.refl _ _).alloc (Nat.le_refl _) _))
              have hlk := (HM1.out (.cells #[.int .u64 (t.n : Nat), .int .i64 t.level, .int .i64 t.count, .int .i64 t.size, .string t.first, .string t.last, .int .u64 (t.least : Nat), .int .u64 (t.most : Nat)] 38)).look t.n t3
              have HO2 : Hid (∀ o, OwnsTb (wr.alloc o) (w.heap.size + 1) u8 (CJ ++ FQ)) := Lib.hid (fun o => hown.below ((Below.refl _ _).alloc (Nat.le_refl _) _))
              have HB2 : Hid (∀ o, Below w.heap.size w (wr.alloc o)) := Lib.hid (fun o => Below.next_alloc hbel _)
              have HLEN := Lib.hid hol
              have HZ1 : Hid (CJ ++ (FQ ++ [t]) = (CJ ++ FQ) ++ [t]) := Lib.hid (by rw [List.append_assoc])
              have HZ2 : Hid (CJ ++ FQ = CJ ++ FQ) := Lib.hid rfl
              obtain ⟨ZZ, hZZ⟩ : ∃ z, z = CJ ++ FQ := ⟨_, rfl⟩
              rw [← hZZ] at HO2 HLEN HZ1
              have HZZ := Lib.hid hZZ
              rw [← hZZ] at hown
              clear hZZ HZ2
              obtain ⟨wo, wc, rfl⟩ := hown.slice
              clear hown hmap hbel hol
              by_cases hd : Ed.ld es t.n ≤ j
              · rw [if_pos hd] at HTQ
                have HCL : Hid (∀ W, Calls Try.prog 73 #[.agg #[.int .u64 (t.n : Nat), .int .i64 t.level, .int .i64 t.count, .int .i64 t.size, .string t.first, .string t.last, .int .u64 (t.least : Nat), .int .u64 (t.most : Nat)]] W (Gives (.agg #[.int .u64 (t.n : Nat), .int .i64 t.level, .int .i64 t.count, .int .i64 t.size, .string t.first, .string t.last, .int .u64 (t.least : Nat), .int .u64 (t.most : Nat)]) W)) := Lib.hid (fun W => clone_tb t W (by omega) (by omega))
                generalize Ed.ld es t.n = d at *
                have hd' : (d : Int) ≤ j := by omega
                clear hd t1 t2 t3
                go_wp2_with fail
                refine (HCL.out _).mono ?_
                rintro r w2 ⟨rfl, hb2⟩
                have hraw : w2.ownsRow (w.heap.size + 1) 38 8 (.slice wo ZZ.length wc) ZZ.length (ZZ.flatMap cellsTb) := (HO2.out _).below hb2
                have HM2 : Hid (∀ o, IMap (w2.alloc o) w.heap.size m (Ed.ld es)) := Lib.hid (fun o => ((HM1.out _).below hb2).below ((Below.refl _ _).alloc (Nat.le_refl _) _))
                have HB3 : Hid (Below w.heap.size w w2) := Lib.hid (Below.next (HB2.out _) hb2)
                have hsz2 : w.heap.size + 1 ≤ w2.heap.size := by have := hb2.size; simp at this; omega
                clear hb2
                go_wp2_with (at_builtin; go_must (refine wpList_append_own _ rfl _ _ 26 rfl (w.heap.size + 1) 38 i0 _ 8 80 Try.underlying26 hi hz0 hz1 hz2 rfl (by decide) _ _ _ rfl (hraw.alloc _) ⟨w2.heap.size, 0, none⟩ 1 1 (cellsTb t) rfl rfl (World.news_of_block (cs := #[_, _, _, _, _, _, _, _]) (fr := (0, 0)) (heap_alloc_new w2 _)) ?c2 ?c3 ?c4 ?c5 ?_))
                case c2 => intro u hu; simp [cellsTb] at hu; rcases hu with hu | hu | hu | hu | hu | hu | hu | hu <;> subst hu <;> rfl
                case c3 => have := HLEN.out; unfold maxLen; omega
                case c4 => have := HLEN.out; omega
                case c5 => simp; omega
                intro v3 w3 hown3 hg3 _
                have R1 : Hid (OwnsTb w3 (w.heap.size + 1) v3 (ZZ ++ [t])) := Lib.hid (OwnsTb.snoc hown3)
                have R2 : Hid (IMap w3 w.heap.size m (Ed.ld es)) := Lib.hid ((HM2.out _).grown hg3 (fun e => by have := (hraw.lt _ e.symm).1; omega))
                have R3 : Hid (Below w.heap.size w w3) := Lib.hid ((Below.next_alloc HB3.out _).grown hg3 (by simp; omega) (fun z hz => Nat.le_trans (Nat.le_succ _) (hraw.lt z hz).1))
                clear hown3 hg3 hraw hlk
                go_wp2_with fail
                go_roundw
                case rel => exact ⟨q + 1, by omega, by go_num, by rw [HTQ.out, HZ1.out]; exact R1.out, by rw [HTQ.out, HZ1.out, List.length_append]; have := HLEN.out; simp only [List.length_singleton]; omega, R2.out, R3.out⟩
                case measure => simp [intOf]; omega
              · rw [if_neg hd, List.append_nil] at HTQ
                have hd2 : ¬ ((Ed.ld es t.n : Nat) : Int) ≤ j := by omega
                generalize Ed.ld es t.n = d at *
                clear hd t1 t2 t3
                go_wp2_with fail
                go_roundw
                case rel => exact ⟨q + 1, by omega, by go_num, by rw [HTQ.out, ← HZZ.out]; exact HO2.out _, by rw [HTQ.out, ← HZZ.out]; have := HLEN.out; omega, HM1.out _, HB2.out _⟩
                case measure => simp [intOf]; omega
            · obtain rfl : q = xn := by omega
              have HZ : Hid ((x.add.take q).filter (fun t => decide (Ed.ld es t.n ≤ j)) = x.add.filter (fun t => decide (Ed.ld es t.n ≤ j))) := Lib.hid (by rw [List.take_of_length_le (by rw [HDL.out]; exact Nat.le_refl _)])
              rw [HZ.out, ← HTK.out] at hown hol
              have R1 := Lib.hid hown; have R2 := Lib.hid hmap; have R3 := Lib.hid hbel; have R4 := Lib.hid hol
              clear hown hmap hbel hol
              go_wp2_with fail
              go_roundw
              case rel => exact ⟨j + 1, by omega, by go_num, R1.out, by have := R4.out; omega, R2.out, R3.out⟩
              case measure => simp [intOf]; omega
        · obtain rfl : j = k := by omega
          have HZ : Hid (Ed.comeTo es j = Ed.coming es) := Lib.hid (by unfold Ed.comeTo Ed.coming; rw [HAL.out])
          have HFI : Hid (OwnsTb wr w.heap.size u8 (Ed.coming es)) := Lib.hid (by rw [← HZ.out]; exact hown.mono (Nat.le_succ _))
          clear hown hmap hbel hol
          go_wp2_with fail
          go_ret
          exact ⟨_, rfl, HFI.out, HBE.out⟩

end Go.Proofs.Ytbdoekogoiijeaa
