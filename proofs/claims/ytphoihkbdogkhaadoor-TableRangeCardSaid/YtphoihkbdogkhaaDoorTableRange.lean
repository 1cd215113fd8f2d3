/- The walk of TableRange. -/
import Derived.Test.YtphoihkbdogkhaaDoorTbLaw
import Derived.Deep.DeepCutAuto
import Derived.Deep.CutRange
namespace Go.Proofs.YtphoihkbdogkhaaDoor.Bn.Tw
open Go Go.RowKit Go.Proofs.YtphoihkbdogkhaaDoor.Tb
open Go.Proofs.YtphoihkbdogkhaaDoor.Bn.Bo (Turns cell_of heap_lt)
set_option linter.unusedVariables false
set_option maxRecDepth 100000

/-- The entries of a range that was told, from the k-th on as they were. -/
def GotAt (w : World) (base : Nat) (a : Option Addr) (G : List Ent) (k : Nat) : Prop := 0 < G.length → ∃ g cur, a = some ⟨g, 0, none⟩ ∧ base ≤ g ∧ w.heap[g]? = some (.cells cur 33 (0, 0)) ∧ G.length * 4 ≤ cur.size ∧ ∀ j u, k * 4 ≤ j → (rowCells G)[j]? = some u → cur[j]? = some u
theorem GotAt.of {w : World} {base n c : Nat} {a : Option Addr} {G : List Ent} (h : OwnsE w base (.slice a n c) G) : GotAt w base a G 0 := fun hn => by
  have h0 := h
  rcases h.2 with ⟨e, _⟩ | ⟨g, cap, cur, e, hb, hg, hnc, hcm, hcs, htake⟩
  · simp only [Value.slice.injEq] at e; omega
  · simp only [Value.slice.injEq] at e
    obtain ⟨rfl, _, rfl⟩ := e
    refine ⟨g, cur, rfl, hb, hg, by rw [hcs]; exact Nat.mul_le_mul_right _ hnc, fun j u _ hu => ?_⟩
    have h1 := World.ownsRow.cells h0 (g := g) rfl j u hu
    have ea : (⟨g, 0, none⟩ : Addr).add j = ⟨g, j, none⟩ := by unfold Addr.add; split <;> simp_all
    rw [ea, cell_of hg] at h1
    exact h1
theorem GotAt.below {w w' : World} {base k : Nat} {a : Option Addr} {G : List Ent} (h : GotAt w base a G k) (hb : Below w.heap.size w w') : GotAt w' base a G k := fun hn => by
  obtain ⟨g, cur, e, h1, h2, h3, h4⟩ := h hn
  exact ⟨g, cur, e, h1, (hb.block _ (heap_lt h2)).trans h2, h3, h4⟩
theorem GotAt.set {w : World} {base k g : Nat} {a : Option Addr} {G : List Ent} (h : GotAt w base a G k) (hg : a = some ⟨g, 0, none⟩) (v : Value) : GotAt (w.setCell ⟨g, k * 4, none⟩ v) base a G (k + 1) := fun hn => by
  obtain ⟨g', cur, e, h1, h2, h3, h4⟩ := h hn
  rw [hg] at e
  simp only [Option.some.injEq, Addr.mk.injEq, and_true] at e
  subst e
  refine ⟨g, _, hg, h1, heap_setCell_same w g (k * 4) cur _ v h2, by simpa using h3, fun j u hj hu => ?_⟩
  rw [Array.getElem?_setIfInBounds_ne (by omega)]
  exact h4 j u (by omega) hu
theorem filter_place {P : Ent → Bool} {A : List Ent} {i : Nat} {e : Ent} (he : A[i]? = some e) : ((A.take (i + 1)).filter P = (A.take i).filter P ++ if P e = true then [e] else []) ∧ (P e = true → (A.filter P)[((A.take i).filter P).length]? = some e) := by
  obtain ⟨hi, hie⟩ := List.getElem?_eq_some_iff.1 he
  have e1 : A.take (i + 1) = A.take i ++ [e] := by rw [List.take_add_one, he]; rfl
  constructor
  · rw [e1, List.filter_append]
    by_cases hp : P e = true
    · rw [if_pos hp, List.filter_cons_of_pos hp]; rfl
    · rw [if_neg hp, List.filter_cons_of_neg hp]; rfl
  · intro hp
    have e2 : A = A.take i ++ e :: A.drop (i + 1) := by
      rw [← hie, List.getElem_cons_drop, List.take_append_drop]
    have e3 : A.filter P = (A.take i).filter P ++ e :: (A.drop (i + 1)).filter P := by
      conv => lhs; rw [e2]
      rw [List.filter_append, List.filter_cons_of_pos hp]
    rw [e3, List.getElem?_append_right (Nat.le_refl _), Nat.sub_self]
    rfl

/-- Between a text and the same with a byte 0 behind it lies that text alone. -/
theorem less_zero : ∀ (k F : List UInt8), Op.bytesLess k F = false → Op.bytesLess k (F ++ [0]) = true → k = F
  | [], [], _, _ => rfl
  | [], b :: F, h, _ => by simp [Op.bytesLess] at h
  | a :: k, [], _, h => by
    exfalso
    rw [List.nil_append, Op.bytesLess] at h
    have e : Op.bytesLess k [] = false := by cases k <;> rfl
    rw [e] at h
    by_cases h1 : a < 0
    · exact absurd h1 (by simp)
    · simp [h1] at h
  | a :: k, b :: F, h1, h2 => by
    rw [List.cons_append] at h2
    rw [Op.bytesLess] at h1 h2
    by_cases hab : a < b
    · simp [hab] at h1
    · by_cases hba : a = b
      · subst hba
        simp at h1 h2
        rw [less_zero k F h1 h2]
      · simp [hab, hba] at h2
set_option maxHeartbeats 4000000 in
theorem range_walk (a : Option Addr) (n c : Nat) (l : List Ent) (F0 T0 : ByteArray) (w : World) (hT : Tab w) (h : SeesI w (.slice a n c) l) (hF : F0.size ≤ 9223372036854775807) (hTo : T0.size ≤ 9223372036854775807) :
    Calls Tryd.prog 6 #[.slice a n c, .string F0, .string T0] w (Gives (.bool true) w) := by
  have HAW : Hid (∀ W, Below w.heap.size w W → Calls Tryd.prog 17 #[] W (Gives (.bool true) W)) := Lib.hid (fun W hb => awake_any W (hT.below hb))
  have HGR := Lib.hid (greatEntries_any a n c l w h)
  have HH := Lib.hid h; have HT := Lib.hid hT
  have HLN := Lib.hid h.len
  clear h hT
  go_enter Tryd.func6, Tryd.ntmps6
  cases hg : greatE l with
  | true =>
    rw [hg] at HGR
    go_wp2_with fail
    refine HGR.out.mono ?_
    rintro r w1 ⟨rfl, hb1⟩
    have HB1 := Lib.hid hb1
    clear hb1
    go_wp2_with fail
    refine (HAW.out _ HB1.out).mono ?_
    rintro r w2 ⟨rfl, hb2⟩
    have HB2 := Lib.hid (nx HB1.out hb2)
    clear hb2
    go_wp2_with fail
    go_ret
    exact ⟨rfl, HB2.out⟩
  | false =>
    rw [hg] at HGR
    have hln := greatE_few hg
    have hn100 : n ≤ 100 := by have := HLN.out; omega
    clear hg
    go_wp2_with fail
    refine HGR.out.mono ?_
    rintro r w1 ⟨rfl, hb1⟩
    have HB1 := Lib.hid hb1
    clear hb1
    go_upto_if 22 with fail
    go_cut [1] (fun f wx => wx = w1 ∧ ∃ F : ByteArray, f = .string F ∧ Hid (F.size ≤ 200))
    case first =>
      go_wp2_with fail
      · go_meet
        case rel => exact ⟨rfl, _, rfl, Lib.hid (by rw [ByteArray.size_extract]; omega)⟩
      · go_meet
        case rel => exact ⟨rfl, _, rfl, Lib.hid (by omega)⟩
    case rest =>
      obtain ⟨rfl, F, rfl, HF⟩ := hcut
      go_upto_if 27 with fail
      go_cut [2] (fun f wx => wx = wc ∧ ∃ T : ByteArray, f = .string T ∧ Hid (T.size ≤ 200))
      case first =>
        go_wp2_with fail
        · go_meet
          case rel => exact ⟨rfl, _, rfl, Lib.hid (by rw [ByteArray.size_extract]; omega)⟩
        · go_meet
          case rel => exact ⟨rfl, _, rfl, Lib.hid (by omega)⟩
      case rest =>
        obtain ⟨W1, hW1⟩ : ∃ W1, W1 = wc := ⟨_, rfl⟩
        obtain ⟨rfl, T, rfl, HTT⟩ := hcut
        have HTK := Lib.hid (taken_any (HH.out.below HB1.out) hn100 (HT.out.below HB1.out))
        obtain ⟨hinv, hgood⟩ := took_inv 3 1 l
        have hal := took_len l (TS.new 3 1)
        generalize took (TS.new 3 1) l = A at *
        have hA100 : A.length ≤ 100 := by omega
        have HGD := Lib.hid hgood
        clear hinv hgood hal hW1
        go_wp2_with fail
        refine HTK.out.mono ?_
        rintro r w2 ⟨v, rfl, ho, hb2⟩
        have HB2 := Lib.hid (nx HB1.out hb2)
        have HO2 : Hid (OwnsE w2 w.heap.size v A) := Lib.hid (row_low2 HB1.out.size ho)
        obtain ⟨va, vc, rfl⟩ := Bo.row_any ho
        clear hb2 ho
        obtain ⟨t0, t1, t2, t3, t4, t5, t6, t7, ht⟩ := toldT_agg A
        rw [ht]
        clear ht
        have HB3 : Hid (Below w.heap.size w (w2.alloc (.cells #[.int .u64 (t0 : Int), .int .i64 t1, .int .i64 t2, .int .i64 t3, .string t4, .string t5, .int .u64 (t6 : Int), .int .u64 (t7 : Int)] 26))) := Lib.hid (HB2.out.alloc HB2.out.size _)
        have HO3 : Hid (OwnsE (w2.alloc (.cells #[.int .u64 (t0 : Int), .int .i64 t1, .int .i64 t2, .int .i64 t3, .string t4, .string t5, .int .u64 (t6 : Int), .int .u64 (t7 : Int)] 26)) w.heap.size (.slice va A.length vc) A) := Lib.hid (HO2.out.below (box_below _ _))
        by_cases hA : A = []
        · have e1 : (if A = [] then ([] : List UInt8) else whole A) = [] := if_pos hA
          have e2 : (if A = [] then (9 : Int) else 0) = 9 := if_pos hA
          rw [e1, e2, show bmk [] = ⟨#[]⟩ from rfl]
          have hl0 : A.length = 0 := by rw [hA]; rfl
          rw [hl0]
          have HOP : Hid (∀ W, Below w.heap.size w W → Calls Tryd.prog 12 #[.string ⟨#[]⟩] W (OpenBack none W)) := Lib.hid (fun W hb => by
            have h := open_any ⟨#[]⟩ W (by decide) (HT.out.below hb)
            have e : openT (⟨#[]⟩ : ByteArray).data.toList = none := by
              show openT [] = none
              unfold openT
              rw [rd_nil]
            rw [e] at h
            exact h)
          clear e1 e2 hA hl0
          go_wp2_with fail
          refine (HOP.out _ HB3.out).mono ?_
          rintro r w4 ⟨hb4, rfl⟩
          have HB4 := Lib.hid (nx HB3.out hb4)
          clear hb4
          go_wp2_with fail
          refine (HAW.out _ HB4.out).mono ?_
          rintro r w5 ⟨rfl, hb5⟩
          have HB5 := Lib.hid (nx HB4.out hb5)
          clear hb5
          go_wp2_with fail
          go_ret
          exact ⟨rfl, HB5.out⟩
        · have e1 : (if A = [] then ([] : List UInt8) else whole A) = whole A := if_neg hA
          have e2 : (if A = [] then (9 : Int) else 0) = 0 := if_neg hA
          rw [e1, e2]
          have hl0 : ¬ ((A.length : Int) = 0) := by have := List.length_pos_iff.2 hA; omega
          have HOG := Lib.hid (fun W (hb : Below w.heap.size w W) => open_good HGD.out hA hA100 W (HT.out.below hb))
          clear e1 e2
          go_wp2_with fail
          refine (HOG.out _ HB3.out).mono ?_
          rintro r w4 ⟨hb4, p, f, ix, bv, bl, rfl, ht4, hto⟩
          have HB4 := Lib.hid (nx HB3.out hb4)
          have HO4 : Hid (OwnsE w4 w.heap.size (.slice va A.length vc) A) := Lib.hid (HO3.out.below hb4)
          have HT4 := Lib.hid ht4; have HTO := Lib.hid hto
          have HRG : Hid (∀ W, Below w4.heap.size w4 W → ∀ a b : ByteArray, a.size ≤ 1000 → Calls Tryd.prog 15 #[.pointer (some ⟨p, 0, none⟩), .string a, .string b] W (EntsBack (A.filter fun e => !less e.key a && okTo b e) W)) := Lib.hid (fun W hb a b ha => range_of HGD.out hA100 (HT4.out.below hb) HTO.out a b (by omega))
          have HALL : Hid (∀ W, Below w4.heap.size w4 W → Calls Tryd.prog 14 #[.pointer (some ⟨p, 0, none⟩)] W (EntsBack A W)) := Lib.hid (fun W hb => all_of HGD.out hA100 (HT4.out.below hb) HTO.out)
          have HMAY : Hid (∀ W, Below w4.heap.size w4 W → Calls Tryd.prog 13 #[.pointer (some ⟨p, 0, none⟩), .string F] W (Gives (.bool (Bl.may (tabOf A).filter F.data.toList)) W)) := Lib.hid (fun W hb => may_of HGD.out hA100 (HT4.out.below hb) HTO.out F (by have := HF.out; omega))
          clear hb4 ht4 hto HT4 HTO
          go_wp2_with fail
          refine (HRG.out _ (Below.refl _ _) F T (by have := HF.out; omega)).mono ?_
          rintro r w5 ⟨gv, rfl, hg5, hb5⟩
          obtain ⟨ga, gc, rfl⟩ := Bo.row_any hg5
          obtain ⟨P, hP⟩ : ∃ P : Ent → Bool, P = (fun e => !less e.key F && okTo T e) := ⟨_, rfl⟩
          rw [← hP] at hg5 ⊢
          have HP := Lib.hid hP
          have hgl : (A.filter P).length ≤ 100 := Nat.le_trans (List.length_filter_le _ _) hA100
          have HGA := Lib.hid (GotAt.of hg5)
          have HB5 := Lib.hid hb5
          obtain ⟨G, hG⟩ : ∃ G, G = A.filter P := ⟨_, rfl⟩
          rw [← hG] at HGA hgl ⊢
          have HG := Lib.hid hG
          clear hg5 hb5 hP hG
          go_wp2_with fail
          go_loopw [13, 15] (fun k i wr => ∃ q : Nat, q ≤ A.length ∧ i = .int .i64 (q : Int) ∧ k = .int .i64 (((A.take q).filter P).length : Int) ∧ Hid (GotAt wr w4.heap.size ga G ((A.take q).filter P).length) ∧ Below w4.heap.size w4 wr) (fun _ i _ => A.length - (intOf i).toNat)
          case atStart => exact ⟨0, Nat.zero_le _, rfl, rfl, HGA, HB5.out⟩
          case round =>
            obtain ⟨q, hq, rfl, rfl, hga, hbel⟩ := hrel
            clear HGA HB5
            have HBE := Lib.hid hbel
            have HO := Lib.hid (OwnsE.below HO4.out hbel)
            by_cases hlt : q < A.length
            · have HLT := Lib.hid hlt
              obtain ⟨e, he⟩ : ∃ e, A[q]? = some e := ⟨_, List.getElem?_eq_getElem hlt⟩
              obtain ⟨g, rfl, hg, c0, c1, c2, c3⟩ := OwnsE.at HO.out he
              obtain ⟨hf1, hf2⟩ := filter_place (P := P) he
              have HF1 := Lib.hid hf1; have HF2 := Lib.hid hf2
              have hkl : ((A.take q).filter P).length ≤ 100 := Nat.le_trans (List.length_filter_le _ _) (by rw [List.length_take]; omega)
              generalize (A.take q).filter P = R at *
              have hPe : P e = (!less e.key F && okTo T e) := by rw [HP.out]
              have hle : less e.key F = Op.bytesLess e.key.toList F.toList := by unfold less; rw [ByteArray.toList_eq, ByteArray.toList_eq]
              have hlt2 : less e.key T = Op.bytesLess e.key.toList T.toList := by unfold less; rw [ByteArray.toList_eq, ByteArray.toList_eq]
              have hte : T.toList = [] ↔ T.size = 0 := by
                rw [ByteArray.toList_eq, Array.toList_eq_nil_iff]
                exact Array.size_eq_zero_iff.symm
              unfold okTo at hPe
              rw [hle, hlt2] at hPe
              clear hle hlt2
              by_cases hp : P e = true
              · have hcs : Op.bytesLess e.key.toList F.toList = false ∧ (T.toList = [] ∨ (¬ T.toList = [] ∧ Op.bytesLess e.key.toList T.toList = true)) := by
                  rw [hp] at hPe
                  have h := hPe.symm
                  rw [Bool.and_eq_true, Bool.or_eq_true, decide_eq_true_eq] at h
                  refine ⟨by simpa using h.1, ?_⟩
                  rcases h.2 with h2 | h2
                  · exact Or.inl (hte.2 h2)
                  · by_cases h3 : T.toList = []
                    · exact Or.inl h3
                    · exact Or.inr ⟨h3, h2⟩
                rw [if_pos hp] at HF1
                have hGk := HF2.out hp
                rw [← HG.out] at hGk
                have hkG : R.length < G.length := (List.getElem?_eq_some_iff.1 hGk).1
                obtain ⟨g2, cur, rfl, hgb, hgx, hgs, hgc⟩ := hga.out (by omega)
                obtain ⟨k0, k1, k2, k3⟩ := rowCells_at G R.length e hGk
                have d0 : wr.cell? ⟨g2, R.length * 4, none⟩ = some (.string e.key) := by rw [cell_of hgx]; exact hgc _ _ (by omega) k0
                have d1 : wr.cell? ⟨g2, R.length * 4 + 1, none⟩ = some (.string e.val) := by rw [cell_of hgx]; exact hgc _ _ (by omega) k1
                have d2 : wr.cell? ⟨g2, R.length * 4 + 2, none⟩ = some (.int .u64 (e.seq : Int)) := by rw [cell_of hgx]; exact hgc _ _ (by omega) k2
                have d3 : wr.cell? ⟨g2, R.length * 4 + 3, none⟩ = some (.bool e.gone) := by rw [cell_of hgx]; exact hgc _ _ (by omega) k3
                have hfz := Bo.unfrozen_of hgx (R.length * 4)
                have hg2l := heap_lt hgx
                have HST : Hid (∀ q, GotAt ((wr.drewN q).setCell ⟨g2, R.length * 4, none⟩ (.string ⟨#[111, 116, 104, 101, 114]⟩)) w4.heap.size (some ⟨g2, 0, none⟩) G (R.length + 1)) := Lib.hid (fun q => GotAt.set (w := wr.drewN q) hga.out rfl _)
                have HSB : Hid (∀ q, Below w4.heap.size w4 ((wr.drewN q).setCell ⟨g2, R.length * 4, none⟩ (.string ⟨#[111, 116, 104, 101, 114]⟩))) := Lib.hid (fun q => Below.setCell (show Below w4.heap.size w4 (wr.drewN q) from ⟨HBE.out.os, HBE.out.tape, HBE.out.output, HBE.out.size, HBE.out.block⟩) hgb _)
                obtain ⟨EK, EV, EQ, EG⟩ := e
                dsimp only at c0 c1 c2 c3 d0 d1 d2 d3 hcs
                clear he hbel hf1 hf2 hPe hp hGk hgx hgs hgc k0 k1 k2 k3 hte hga hgb
                obtain ⟨hq1, hcs⟩ := hcs
                rcases hcs with hq2 | ⟨hq2, hq3⟩
                all_goals
                  go_wp2_with fail
                  go_quiet (fail)
                  go_wp2_with fail
                  exact ⟨⟨q + 1, by have := HLT.out; omega, by go_num, by rw [HF1.out, List.length_append]; rfl, by rw [HF1.out, List.length_append]; exact Lib.hid (HST.out _), HSB.out _⟩, by have := HLT.out; simp [intOf]; omega⟩
              · have hcs : Op.bytesLess e.key.toList F.toList = true ∨ (Op.bytesLess e.key.toList F.toList = false ∧ (¬ T.toList = [] ∧ T.toList.isEmpty = false) ∧ Op.bytesLess e.key.toList T.toList = false) := by
                  cases h1 : Op.bytesLess e.key.toList F.toList with
                  | true => exact Or.inl rfl
                  | false =>
                    right
                    rw [h1] at hPe
                    have h2 : ¬ (decide (T.size = 0) || Op.bytesLess e.key.toList T.toList) = true := fun h => hp (by rw [hPe, h]; rfl)
                    rw [Bool.or_eq_true, decide_eq_true_eq, not_or] at h2
                    have h3 : ¬ T.toList = [] := fun h => h2.1 (hte.1 h)
                    exact ⟨rfl, ⟨h3, by rw [List.isEmpty_eq_false_iff]; exact h3⟩, by simpa using h2.2⟩
                rw [if_neg hp, List.append_nil] at HF1
                obtain ⟨EK, EV, EQ, EG⟩ := e
                dsimp only at c0 c1 c2 c3 hcs
                clear he hbel hf1 hf2 hPe hp hte
                rcases hcs with hq1 | ⟨hq1, ⟨hq2, hq4⟩, hq3⟩
                all_goals
                  go_wp2_with fail
                  exact ⟨⟨q + 1, by have := HLT.out; omega, by go_num, by rw [HF1.out], by rw [HF1.out]; exact hga, HBE.out⟩, by have := HLT.out; simp [intOf]; omega⟩
            · obtain rfl : q = A.length := by omega
              have htk : (A.take A.length).filter P = G := by rw [List.take_length, HG.out]
              rw [htk]
              clear htk hga hbel
              have hFs := HF.out
              clear hq hlt hF hTo hl0 hln hn100 hgl HOG HTK HB3 HGR HH HLN
              go_upto_region 23 with fail
              obtain ⟨Z0, hZ0⟩ : ∃ Z0 : ByteArray, Z0 = ⟨#[0]⟩ := ⟨_, rfl⟩
              rw [← hZ0]
              have hz1 : Z0.size = 1 := by rw [hZ0]; rfl
              have hadd : ¬ 9223372036854775807 < F.size + Z0.size := by omega
              have HZ0 := Lib.hid hZ0
              have HR1 := Lib.hid (HRG.out _ HBE.out F (F ++ Z0) (by omega))
              clear hZ0 hz1 hFs
              go_wp2_with fail
              refine HR1.out.mono ?_
              rintro r w6 ⟨ov, rfl, ho6, hb6⟩
              have HB6 := Lib.hid (nx HBE.out hb6)
              obtain ⟨oa, oc, rfl⟩ := Bo.row_any ho6
              have HM := Lib.hid (HMAY.out _ HB6.out)
              have HA0 := Lib.hid hA
              obtain ⟨O, hO⟩ : ∃ O, O = (A.filter fun e => !less e.key F && okTo (F ++ Z0) e) := ⟨_, rfl⟩
              rw [← hO]
              have HON : Hid (Bl.may (tabOf A).filter F.data.toList = false → O.length = 0) := Lib.hid (fun hm => by
                rw [hO, List.length_eq_zero_iff, List.filter_eq_nil_iff]
                intro e he hc
                rw [Bool.and_eq_true] at hc
                have h1 : less e.key F = false := by simpa using hc.1
                have h2 : less e.key (F ++ Z0) = true := by
                  have h := hc.2
                  unfold okTo at h
                  rw [Bool.or_eq_true, decide_eq_true_eq] at h
                  rcases h with h | h
                  · rw [ByteArray.size_append, HZ0.out] at h
                    exact absurd h (by show ¬ (F.size + 1 = 0); omega)
                  · exact h
                have e1 : (F ++ Z0).data.toList = F.data.toList ++ [0] := by rw [HZ0.out]; simp
                unfold less at h1 h2
                rw [e1] at h2
                have h3 := less_zero _ _ h1 h2
                have h4 := may_key he
                rw [h3, hm] at h4
                cases h4)
              have HSA : Hid (∀ W b1 b2 xa xn xc ya yn yc, OwnsE W b1 (.slice xa xn xc) A → OwnsE W b2 (.slice ya yn yc) A → Calls Tryd.prog 24 #[.slice xa xn xc, .slice ya yn yc] W (Gives (.bool true) W)) := Lib.hid (fun W b1 b2 xa xn xc ya yn yc h1 h2 => same_ents h1 h2 (by omega))
              have HO6 : Hid (OwnsE w6 w.heap.size (.slice va A.length vc) A) := Lib.hid (OwnsE.below HO4.out HB6.out)
              clear ho6 hb6 hO HO4 HO HRG HR1 hadd hA hA100
              cases hm : Bl.may (tabOf A).filter F.data.toList with
              | true =>
                rw [hm] at HM
                clear hm HON
                go_wp2_with fail
                refine HM.out.mono ?_
                rintro r w7 ⟨rfl, hb7⟩
                have HB7 := Lib.hid (nx HB6.out hb7)
                have HO7 : Hid (OwnsE w7 w.heap.size (.slice va A.length vc) A) := Lib.hid (OwnsE.below HO6.out hb7)
                clear hb7
                go_wp2_with fail
                refine (HALL.out _ HB7.out).mono ?_
                rintro r w8 ⟨av, rfl, ho8, hb8⟩
                obtain ⟨aa, ac, rfl⟩ := Bo.row_any ho8
                have HB8 := Lib.hid (nx HB7.out hb8)
                have HO8 : Hid (OwnsE w8 w.heap.size (.slice va A.length vc) A) := Lib.hid (OwnsE.below HO7.out hb8)
                have HS8 := Lib.hid (HSA.out w8 _ _ _ _ _ _ _ _ ho8 HO8.out)
                clear hb8 ho8
                go_wp2_with fail
                refine HS8.out.mono ?_
                rintro r w9 ⟨rfl, hb9⟩
                have HB9 := Lib.hid (nx HB4.out (nx HB8.out hb9))
                clear hb9
                go_wp2_with fail
                refine (HAW.out _ HB9.out).mono ?_
                rintro r w10 ⟨rfl, hb10⟩
                have HB10 := Lib.hid (nx HB9.out hb10)
                clear hb10
                go_wp2_with fail
                go_ret
                exact ⟨rfl, HB10.out⟩
              | false =>
                rw [hm] at HM
                have hon := HON.out hm
                rw [hon]
                clear hm HON hon
                go_wp2_with fail
                refine HM.out.mono ?_
                rintro r w7 ⟨rfl, hb7⟩
                have HB7 := Lib.hid (nx HB6.out hb7)
                have HO7 : Hid (OwnsE w7 w.heap.size (.slice va A.length vc) A) := Lib.hid (OwnsE.below HO6.out hb7)
                clear hb7
                go_wp2_with fail
                refine (HALL.out _ HB7.out).mono ?_
                rintro r w8 ⟨av, rfl, ho8, hb8⟩
                obtain ⟨aa, ac, rfl⟩ := Bo.row_any ho8
                have HB8 := Lib.hid (nx HB7.out hb8)
                have HO8 : Hid (OwnsE w8 w.heap.size (.slice va A.length vc) A) := Lib.hid (OwnsE.below HO7.out hb8)
                have HS8 := Lib.hid (HSA.out w8 _ _ _ _ _ _ _ _ ho8 HO8.out)
                clear hb8 ho8
                go_wp2_with fail
                refine HS8.out.mono ?_
                rintro r w9 ⟨rfl, hb9⟩
                have HB9 := Lib.hid (nx HB4.out (nx HB8.out hb9))
                clear hb9
                go_wp2_with fail
                refine (HAW.out _ HB9.out).mono ?_
                rintro r w10 ⟨rfl, hb10⟩
                have HB10 := Lib.hid (nx HB9.out hb10)
                clear hb10
                go_wp2_with fail
                go_ret
                exact ⟨rfl, HB10.out⟩
end Go.Proofs.YtphoihkbdogkhaaDoor.Bn.Tw
