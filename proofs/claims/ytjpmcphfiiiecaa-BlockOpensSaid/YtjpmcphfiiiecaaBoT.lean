/- The walk of the document's Bytes of layer 11. -/
import Derived.Test.YtjpmcphfiiiecaaBoS
import Derived.Deep.RegionHeld3
import Derived.BigQuiet
namespace Go.Proofs.Ytjpmcphfiiiecaa.Bo
open Go Go.RowKit
set_option linter.unusedVariables false

/-- A text that a region reads, and what was there is as it was. -/
abbrev RB (w : World) (g o : Nat) (val : ByteArray) (w' : World) : Prop := w'.cell? ⟨g, o, none⟩ = some (.string val) ∧ Below w.heap.size w w'
theorem RB.of {w w' : World} {g o : Nat} {val : ByteArray} (hg : g < w.heap.size) (hx : w.cell? ⟨g, o, none⟩ = some (.string val)) (hb : Below w.heap.size w w') : RB w g o val w' := ⟨(hb.cell (p := ⟨g, _, none⟩) hg).trans hx, hb⟩
theorem RB.call {w w' w2 : World} {g o : Nat} {val : ByteArray} (h : RB w g o val w') (hg : g < w.heap.size) (hx : w.cell? ⟨g, o, none⟩ = some (.string val)) (hb : Below w'.heap.size w' w2) : RB w g o val w2 := RB.of hg hx (h.2.trans (hb.mono h.2.size))

theorem below_drewN {B : Nat} {a w : World} (h : Below B a w) (q : Nat) : Below B a (w.drewN q) := ⟨h.os, h.tape, h.output, h.size, h.block⟩
theorem RB.alloc {w w' : World} {g o : Nat} {val : ByteArray} (h : RB w g o val w') (hg : g < w.heap.size) (hx : w.cell? ⟨g, o, none⟩ = some (.string val)) (ob : Obj) : RB w g o val (w'.alloc ob) := RB.of hg hx (h.2.alloc h.2.size ob)

set_option maxHeartbeats 8000000 in
set_option maxRecDepth 100000 in
theorem refBytes_any (a : Option Addr) (n c : Nat) (l : List En) (w : World) (hs : SeesN w a l) (hl : l.length = n) (hg : goodb st0 l = true) (hn : n ≤ 1000000) :
    Calls Try.prog 20 #[.slice a n c] w (Gives (.string ⟨(bytes l).toArray⟩) w) := by
  have HS := Lib.hid hs; have HL := Lib.hid hl; have HG := Lib.hid hg
  clear hs hl hg
  go_enter Try.func20, Try.ntmps20
  go_wp2_with fail
  go_loopw [3, 4, 5] (fun s t i wr => ∃ (k : Nat) (S F : ByteArray), k ≤ n ∧ i = .int .i64 k ∧ s = .string S ∧ t = .string F ∧ Hid (S.data.toList = (run st0 (l.take k)).rows ∧ F.data.toList = (run st0 (l.take k)).foot) ∧ Hid (Below w.heap.size w wr)) (fun _ _ i _ => n - (intOf i).toNat)
  case atStart => exact ⟨0, ⟨#[]⟩, ⟨#[]⟩, Nat.zero_le _, rfl, rfl, rfl, Lib.hid ⟨rfl, rfl⟩, Lib.hid (Below.refl _ _)⟩
  case round =>
    obtain ⟨k, S, F, hk, rfl, rfl, rfl, HSF, HB⟩ := hrel
    have hgt : goodb st0 (l.take k) = true := by
      have := good_append (l.take k) (l.drop k) st0
      rw [List.take_append_drop, HG.out] at this
      exact (Bool.and_eq_true _ _ ▸ this.symm).1
    have hso := sound_run _ _ sound0 hgt
    have hkn : (run st0 (l.take k)).n = k := by rw [run_len, List.length_take, HL.out]; omega
    have hSz : S.size ≤ 2100000000 := by
      have := hso.rows
      rw [hkn, ← HSF.out.1, len] at this
      omega
    have hFz : F.size ≤ 2100000000 := by
      have := hso.foot
      rw [hkn, ← HSF.out.2, len] at this
      omega
    have HKN := Lib.hid hkn; have HSO := Lib.hid hso
    clear hgt hso hkn
    by_cases hlt : k < n
    · obtain ⟨x, hx⟩ : ∃ x, l[k]? = some x := ⟨_, List.getElem?_eq_getElem (by rw [HL.out]; exact hlt)⟩
      obtain ⟨g, rfl, hgl, c0, c1⟩ := HS.out k x hx
      have hki : (k : Int) < n := by omega
      have hk0 : (0 : Int) ≤ k := by omega
      have HGL := Lib.hid hgl; have HC0 := Lib.hid c0; have HC1 := Lib.hid c1
      have hsz := good_sizes l st0 HG.out x (List.mem_of_getElem? hx)
      have HST : Hid (run st0 (l.take (k + 1)) = step (run st0 (l.take k)) x) := Lib.hid (by
        obtain ⟨h1, h2⟩ := List.getElem?_eq_some_iff.1 hx
        rw [List.take_succ_eq_append_getElem h1, h2, run_snoc])
      have d0 : wr.cell? ⟨g, k * 2, none⟩ = some (.string x.key) := (HB.out.cell (p := ⟨g, _, none⟩) hgl).trans c0
      have d1 : wr.cell? ⟨g, k * 2 + 1, none⟩ = some (.string x.val) := (HB.out.cell (p := ⟨g, _, none⟩) hgl).trans c1
      have HX := Lib.hid hx
      by_cases h4 : k % 4 = 0
      · have hm : ((k : Int) % 4 == 0) = true := by simp; omega
        have hm2 : (Int.tmod (k : Int) 4 == 0) = true := by rw [Int.tmod_eq_emod_of_nonneg (by omega)]; exact hm
        have HF4 := Lib.hid (fun W => four_any S.size W (by omega))
        have hadd : ¬ 9223372036854775807 < F.size + (place S.size).size := by rw [place_size]; omega
        have HFE : Hid ((F ++ place S.size).data.toList = (run st0 (l.take (k + 1))).foot) := Lib.hid (by
          rw [HST.out]
          show _ = ftn (run st0 (l.take k))
          unfold ftn
          rw [if_pos (by rw [HKN.out]; exact h4), ByteArray.data_append, Array.toList_append, HSF.out.2, ← HSF.out.1, len]
          rfl)
        have HSH : Hid (sh (run st0 (l.take k)) x.key = 0) := Lib.hid (by unfold sh; rw [if_pos (by rw [HKN.out]; exact h4)])
        obtain ⟨key, val⟩ := x
        dsimp only at *
        clear c0 c1 hx hgl h4
        generalize place S.size = PL at *
        go_wp2_with fail
        refine (HF4.out _).mono ?_
        rintro e w2 ⟨rfl, hb2⟩
        have hB2 : Below w.heap.size w w2 := HB.out.trans (hb2.mono HB.out.size)
        obtain ⟨RW, hRW⟩ : ∃ z : ByteArray, z = ⟨(Nm.row 0).toArray⟩ := ⟨_, rfl⟩
        obtain ⟨TX, hTX⟩ : ∃ z : ByteArray, z = ⟨(textl [key, val]).toArray⟩ := ⟨_, rfl⟩
        have hRz : RW.size ≤ 9 := by rw [hRW, size_mk]; exact (Nm.row_length 0).2
        have hTz : TX.size ≤ 3000 := by
          rw [hTX, size_mk]
          have := textl_length [key, val]
          simp only [suml, List.length_cons, List.length_nil] at this
          omega
        have HRW : Hid (∀ W, Calls Try.prog 36 #[.int .u64 0] W (Gives (.string RW) W)) := Lib.hid (fun W => by
          have := refRow_any 0 W (by omega) (by omega)
          rw [hRW]
          exact this)
        have HTX : Hid (∀ W0 W : World, Below (W0.alloc (.cells #[.string key, .string val] 9)).heap.size (W0.alloc (.cells #[.string key, .string val] 9)) W → Calls Try.prog 37 #[.slice (some ⟨W0.heap.size, 0, none⟩) 2 2] W (Gives (.string TX) W)) := Lib.hid (fun (W0 W : World) hb => by
          have h1 : SeesS (W0.alloc (.cells #[.string key, .string val] 9)) (.slice (some ⟨W0.heap.size, 0, none⟩) 2 2) [key, val] := seesS_heap2 (heap_alloc_new W0 _)
          have := refText_any _ _ _ [key, val] W (h1.below hb) (by omega) (by simp only [suml]; omega)
          rw [hTX]
          exact this)
        have hadd1 : ¬ 9223372036854775807 < S.size + RW.size := by omega
        have hadd2 : ¬ 9223372036854775807 < (S ++ RW).size + TX.size := by rw [ByteArray.size_append]; omega
        have hadd3 : ¬ 9223372036854775807 < S.size + RW.size + TX.size := by omega
        have HEND : Hid ((S ++ RW ++ TX).data.toList = (run st0 (l.take (k + 1))).rows) := Lib.hid (by
          rw [HST.out, hTX, hRW]
          show _ = (run st0 (l.take k)).rows ++ one (run st0 (l.take k)) ⟨key, val⟩
          rw [ByteArray.data_append, ByteArray.data_append, Array.toList_append, Array.toList_append, HSF.out.1, List.append_assoc, textl_pair]
          unfold one
          rw [HSH.out, List.drop_zero])
        have HB2 := Lib.hid hB2; clear hB2
        have e1 := (HB2.out.drew.cell (p := ⟨g, k * 2 + 1, none⟩) HGL.out).trans HC1.out
        have hRB0 : RB w g (k * 2 + 1) val w2.drew := RB.of HGL.out HC1.out HB2.out.drew
        have hRB1 : ∀ o, RB w g (k * 2 + 1) val (w2.alloc o).drew := fun o => RB.of HGL.out HC1.out (HB2.out.alloc HB2.out.size o).drew
        have HRB0 := Lib.hid hRB0; have HRB1 := Lib.hid hRB1
        have hgw : g < w2.heap.size := Nat.lt_of_lt_of_le HGL.out HB2.out.size
        clear hRB0 hRB1 hTX hRW e1 d0
        go_wp2_with fail
        go_region_held3 (fun w' => w'.cell? ⟨g, k * 2 + 1, none⟩ = some (.string val) ∧ Below w.heap.size w w')
          (first | exact HRB0.out | exact HRB1.out _ | exact RB.alloc (by assumption) HGL.out HC1.out _ | exact RB.call (by assumption) HGL.out HC1.out hb4 | exact RB.call (by assumption) HGL.out HC1.out hb3)
          (first
            | (go_at_call 36; refine (HRW.out _).mono ?_; rintro e w3 ⟨rfl, hb3⟩)
            | (go_at_call 37; (with_reducible refine (HTX.out _ _ (Below.refl _ _)).mono ?_); rintro e w4 ⟨rfl, hb4⟩)
            | (go_at_call 37; (with_reducible refine (HTX.out _ _ (Below.refl _ _).drew).mono ?_); rintro e w4 ⟨rfl, hb4⟩)
            | (go_at_call 37; (with_reducible refine (HTX.out _ _ hb3).mono ?_); rintro e w4 ⟨rfl, hb4⟩)
            | (go_at_call 37; (with_reducible refine (HTX.out _ _ (undrew hb3)).mono ?_); rintro e w4 ⟨rfl, hb4⟩))
        all_goals
          go_wp2_with fail
          go_roundw
          case rel => exact ⟨k + 1, S ++ RW ++ TX, F ++ PL, by omega, by go_num, rfl, rfl, Lib.hid ⟨HEND.out, HFE.out⟩, by first | exact Lib.hid (And.right (show RB w g _ val w4 by assumption)) | exact Lib.hid (And.right (show RB w g _ val w3 by assumption))⟩
          case measure => simp [intOf]; omega
      · obtain ⟨j, rfl⟩ : ∃ j, k = j + 1 := ⟨k - 1, by omega⟩
        obtain ⟨y, hy⟩ : ∃ y, l[j]? = some y := ⟨_, List.getElem?_eq_getElem (by rw [HL.out]; omega)⟩
        obtain ⟨g', eg, -, y0, -⟩ := HS.out j y hy
        simp only [Option.some.injEq, Addr.mk.injEq, and_true] at eg
        subst eg
        have hm : (((j : Int) + 1) % 4 == 0) = false := by simp; omega
        have hm2 : (Int.tmod ((j : Int) + 1) 4 == 0) = false := by rw [Int.tmod_eq_emod_of_nonneg (by omega)]; exact hm
        have HFE : Hid (F.data.toList = (run st0 (l.take (j + 1 + 1))).foot) := Lib.hid (by
          rw [HST.out]
          show _ = ftn (run st0 (l.take (j + 1)))
          unfold ftn
          rw [if_neg (by rw [HKN.out]; exact h4), HSF.out.2])
        have hlast : (run st0 (l.take (j + 1))).last = y.key := run_last (k := j) (by rw [List.length_take, HL.out]; omega) (by rw [List.getElem?_take, if_pos (by omega)]; exact hy)
        have HSH : Hid (sh (run st0 (l.take (j + 1))) x.key = cm y.key.data.toList x.key.data.toList) := Lib.hid (by unfold sh; rw [if_neg (by rw [HKN.out]; exact h4), hlast])
        have hysz := good_sizes l st0 HG.out y (List.mem_of_getElem? hy)
        have dy : wr.cell? ⟨g, j * 2, none⟩ = some (.string y.key) := (HB.out.cell (p := ⟨g, _, none⟩) hgl).trans y0
        obtain ⟨key, val⟩ := x
        obtain ⟨pk, pv⟩ := y
        dsimp only at *
        have hj1 : (j : Int) + 1 - 1 = j := by omega
        have hw1 : IntKind.i64.wrap (j : Int) = j := by rw [IntKind.wrap_i64]; omega
        have hj0 : (0 : Int) ≤ j := by omega
        have hj2 : (j : Int) < n := by omega
        have hj3 : (j : Int) + 1 < n := by omega
        have hj5 : (0 : Int) ≤ (j : Int) + 1 := by omega
        have hj6 : j + 1 < n := by omega
        obtain ⟨SH, hSH⟩ : ∃ z, z = cm pk.data.toList key.data.toList := ⟨_, rfl⟩
        rw [← hSH] at HSH
        have HCM := Lib.hid hSH
        have hcl := cm_le pk.data.toList key.data.toList
        rw [len, len, ← hSH] at hcl
        have HSB := Lib.hid hcl
        clear c0 c1 hx hgl h4 hlast hy y0 hSH hcl
        go_wp2_with fail
        go_loopw [7] (fun i wi => ∃ (q : Nat), q ≤ SH ∧ i = .int .i64 q ∧ Hid (Below w.heap.size w wi)) (fun i _ => SH - (intOf i).toNat)
        case atStart => exact ⟨0, Nat.zero_le _, rfl, HB⟩
        case round =>
          obtain ⟨q, hq, rfl, HBQ⟩ := hrel
          by_cases hqs : q < SH
          · have hb1 : q < pk.size := by have := HSB.out.1; omega
            have hb2 : q < key.size := by have := HSB.out.2; omega
            have ia := index_byte pk q hb1
            have ib := index_byte key q hb2
            have heq : pk[q] = key[q] := by
              obtain ⟨b, e1, e2⟩ := cm_at pk.data.toList key.data.toList q (by rw [← HCM.out]; exact hqs)
              rw [List.getElem?_eq_getElem (by rw [len]; exact hb1)] at e1
              rw [List.getElem?_eq_getElem (by rw [len]; exact hb2)] at e2
              simp only [Option.some.injEq] at e1 e2
              exact e1.trans e2.symm
            rw [heq] at ia
            generalize key[q] = z at *
            have hc1 : decide ((q : Int) < pk.size) = true := decide_eq_true (by omega)
            have hc2 : decide ((q : Int) < key.size) = true := decide_eq_true (by omega)
            have hq1 : (q : Int) < pk.size := by omega
            have hq2 : (q : Int) < key.size := by omega
            clear heq
            go_wp2_with fail
            go_quiet (fail)
            go_wp2_with fail
            go_roundw
            case rel => exact ⟨q + 1, by omega, by go_num, by first | exact HBQ | exact Lib.hid (below_drewN HBQ.out _)⟩
            case measure => simp [intOf]; omega
          · obtain rfl : q = SH := by omega
            by_cases hp1 : q < pk.size
            · by_cases hp2 : q < key.size
              · have ia := index_byte pk q hp1
                have ib := index_byte key q hp2
                have hne : pk[q] ≠ key[q] := by
                  intro e
                  have h1 := cm_stop pk.data.toList key.data.toList (by rw [← HCM.out, len]; exact hp1) (by rw [← HCM.out, len]; exact hp2)
                  rw [← HCM.out, List.getElem?_eq_getElem (by rw [len]; exact hp1), List.getElem?_eq_getElem (by rw [len]; exact hp2)] at h1
                  exact h1 (congrArg some e)
                generalize pk[q] = z1 at *
                generalize key[q] = z2 at *
                have hzz : ((z1.toNat : Int) == (z2.toNat : Int)) = false := by
                  have : z1.toNat ≠ z2.toNat := fun h => hne (UInt8.toNat.inj h)
                  simp; omega
                have hc1 : decide ((q : Int) < pk.size) = true := decide_eq_true (by omega)
                have hc2 : decide ((q : Int) < key.size) = true := decide_eq_true (by omega)
                have hq1 : (q : Int) < pk.size := by omega
                have hq2 : (q : Int) < key.size := by omega
                clear hne hqs
                go_wp2_with fail
                go_quiet (fail)
                have hB2 := below_drewN HBQ.out nq
                have hWs : wr.heap.size = (wr.drewN nq).heap.size := rfl
                generalize wr.drewN nq = WQ at *
                obtain ⟨RW, hRW⟩ : ∃ z : ByteArray, z = ⟨(Nm.row q).toArray⟩ := ⟨_, rfl⟩
                obtain ⟨TX, hTX⟩ : ∃ z : ByteArray, z = ⟨(textl [key.extract q key.size, val]).toArray⟩ := ⟨_, rfl⟩
                have hRz : RW.size ≤ 9 := by rw [hRW, size_mk]; exact (Nm.row_length q).2
                have hkx : (key.extract q key.size).size ≤ 1024 := by rw [ByteArray.size_extract]; omega
                have hTz : TX.size ≤ 3000 := by
                  rw [hTX, size_mk]
                  have := textl_length [key.extract q key.size, val]
                  simp only [suml, List.length_cons, List.length_nil] at this
                  omega
                have hshk : (q : Int) ≤ key.size := by have := HSB.out.2; omega
                have hsh0 : (0 : Int) ≤ q := by omega
                have hwsh : IntKind.u64.wrap (q : Int) = q := by have := HSB.out.2; rw [IntKind.wrap_u64]; omega
                clear hWs hc1

                have HRW : Hid (∀ W, Calls Try.prog 36 #[.int .u64 (q : Int)] W (Gives (.string RW) W)) := Lib.hid (fun W => by
                  have := refRow_any (q : Int) W (by omega) (by omega)
                  rw [hRW]
                  exact this)
                have HTX : Hid (∀ W0 W : World, Below (W0.alloc (.cells #[.string (key.extract q key.size), .string val] 9)).heap.size (W0.alloc (.cells #[.string (key.extract q key.size), .string val] 9)) W → Calls Try.prog 37 #[.slice (some ⟨W0.heap.size, 0, none⟩) 2 2] W (Gives (.string TX) W)) := Lib.hid (fun (W0 W : World) hb => by
                  have h1 : SeesS (W0.alloc (.cells #[.string (key.extract q key.size), .string val] 9)) (.slice (some ⟨W0.heap.size, 0, none⟩) 2 2) [(key.extract q key.size), val] := seesS_heap2 (heap_alloc_new W0 _)
                  have := refText_any _ _ _ [(key.extract q key.size), val] W (h1.below hb) (by omega) (by simp only [suml]; omega)
                  rw [hTX]
                  exact this)
                have hadd1 : ¬ 9223372036854775807 < S.size + RW.size := by omega
                have hadd2 : ¬ 9223372036854775807 < (S ++ RW).size + TX.size := by rw [ByteArray.size_append]; omega
                have hadd3 : ¬ 9223372036854775807 < S.size + RW.size + TX.size := by omega
                have HEND : Hid ((S ++ RW ++ TX).data.toList = (run st0 (l.take ((j + 1) + 1))).rows) := Lib.hid (by
                  rw [HST.out, hTX, hRW]
                  show _ = (run st0 (l.take ((j + 1)))).rows ++ one (run st0 (l.take ((j + 1)))) ⟨key, val⟩
                  rw [ByteArray.data_append, ByteArray.data_append, Array.toList_append, Array.toList_append, HSF.out.1, List.append_assoc, textl_pair]
                  unfold one
                  rw [HSH.out, Lib.extract_to_end])
                have HB2 := Lib.hid hB2; clear hB2
                have e1 := (HB2.out.drew.cell (p := ⟨g, (j + 1) * 2 + 1, none⟩) HGL.out).trans HC1.out
                have hRB0 : RB w g ((j + 1) * 2 + 1) val WQ.drew := RB.of HGL.out HC1.out HB2.out.drew
                have hRB1 : ∀ o, RB w g ((j + 1) * 2 + 1) val (WQ.alloc o).drew := fun o => RB.of HGL.out HC1.out (HB2.out.alloc HB2.out.size o).drew
                have HRB0 := Lib.hid hRB0; have HRB1 := Lib.hid hRB1
                have hgw : g < WQ.heap.size := Nat.lt_of_lt_of_le HGL.out HB2.out.size
                clear hRB0 hRB1 hTX hRW e1 d0
                go_wp2_with fail
                go_region_held3 (fun w' => w'.cell? ⟨g, (j + 1) * 2 + 1, none⟩ = some (.string val) ∧ Below w.heap.size w w')
                  (first | exact HRB0.out | exact HRB1.out _ | exact RB.alloc (by assumption) HGL.out HC1.out _ | exact RB.call (by assumption) HGL.out HC1.out hb4 | exact RB.call (by assumption) HGL.out HC1.out hb3)
                  (first
                    | (go_at_call 36; refine (HRW.out _).mono ?_; rintro e w3 ⟨rfl, hb3⟩)
                    | (go_at_call 37; (with_reducible refine (HTX.out _ _ (Below.refl _ _)).mono ?_); rintro e w4 ⟨rfl, hb4⟩)
                    | (go_at_call 37; (with_reducible refine (HTX.out _ _ (Below.refl _ _).drew).mono ?_); rintro e w4 ⟨rfl, hb4⟩)
                    | (go_at_call 37; (with_reducible refine (HTX.out _ _ hb3).mono ?_); rintro e w4 ⟨rfl, hb4⟩)
                    | (go_at_call 37; (with_reducible refine (HTX.out _ _ (undrew hb3)).mono ?_); rintro e w4 ⟨rfl, hb4⟩))
                all_goals
                  go_wp2_with fail
                  go_roundw
                  case rel => exact ⟨(j + 1) + 1, S ++ RW ++ TX, F, by omega, by go_num, rfl, rfl, Lib.hid ⟨HEND.out, HFE.out⟩, by first | exact Lib.hid (And.right (show RB w g _ val w4 by assumption)) | exact Lib.hid (And.right (show RB w g _ val w3 by assumption))⟩
                  case measure => simp [intOf]; omega
              · have hc1 : decide ((q : Int) < pk.size) = true := decide_eq_true (by omega)
                have hc2 : decide ((q : Int) < key.size) = false := decide_eq_false (by omega)
                have hq1 : (q : Int) < pk.size := by omega
                clear hqs
                go_wp2_with fail
                go_quiet (fail)
                have hB2 := below_drewN HBQ.out nq
                have hWs : wr.heap.size = (wr.drewN nq).heap.size := rfl
                generalize wr.drewN nq = WQ at *
                obtain ⟨RW, hRW⟩ : ∃ z : ByteArray, z = ⟨(Nm.row q).toArray⟩ := ⟨_, rfl⟩
                obtain ⟨TX, hTX⟩ : ∃ z : ByteArray, z = ⟨(textl [key.extract q key.size, val]).toArray⟩ := ⟨_, rfl⟩
                have hRz : RW.size ≤ 9 := by rw [hRW, size_mk]; exact (Nm.row_length q).2
                have hkx : (key.extract q key.size).size ≤ 1024 := by rw [ByteArray.size_extract]; omega
                have hTz : TX.size ≤ 3000 := by
                  rw [hTX, size_mk]
                  have := textl_length [key.extract q key.size, val]
                  simp only [suml, List.length_cons, List.length_nil] at this
                  omega
                have hshk : (q : Int) ≤ key.size := by have := HSB.out.2; omega
                have hsh0 : (0 : Int) ≤ q := by omega
                have hwsh : IntKind.u64.wrap (q : Int) = q := by have := HSB.out.2; rw [IntKind.wrap_u64]; omega
                clear hWs hc1

                have HRW : Hid (∀ W, Calls Try.prog 36 #[.int .u64 (q : Int)] W (Gives (.string RW) W)) := Lib.hid (fun W => by
                  have := refRow_any (q : Int) W (by omega) (by omega)
                  rw [hRW]
                  exact this)
                have HTX : Hid (∀ W0 W : World, Below (W0.alloc (.cells #[.string (key.extract q key.size), .string val] 9)).heap.size (W0.alloc (.cells #[.string (key.extract q key.size), .string val] 9)) W → Calls Try.prog 37 #[.slice (some ⟨W0.heap.size, 0, none⟩) 2 2] W (Gives (.string TX) W)) := Lib.hid (fun (W0 W : World) hb => by
                  have h1 : SeesS (W0.alloc (.cells #[.string (key.extract q key.size), .string val] 9)) (.slice (some ⟨W0.heap.size, 0, none⟩) 2 2) [(key.extract q key.size), val] := seesS_heap2 (heap_alloc_new W0 _)
                  have := refText_any _ _ _ [(key.extract q key.size), val] W (h1.below hb) (by omega) (by simp only [suml]; omega)
                  rw [hTX]
                  exact this)
                have hadd1 : ¬ 9223372036854775807 < S.size + RW.size := by omega
                have hadd2 : ¬ 9223372036854775807 < (S ++ RW).size + TX.size := by rw [ByteArray.size_append]; omega
                have hadd3 : ¬ 9223372036854775807 < S.size + RW.size + TX.size := by omega
                have HEND : Hid ((S ++ RW ++ TX).data.toList = (run st0 (l.take ((j + 1) + 1))).rows) := Lib.hid (by
                  rw [HST.out, hTX, hRW]
                  show _ = (run st0 (l.take ((j + 1)))).rows ++ one (run st0 (l.take ((j + 1)))) ⟨key, val⟩
                  rw [ByteArray.data_append, ByteArray.data_append, Array.toList_append, Array.toList_append, HSF.out.1, List.append_assoc, textl_pair]
                  unfold one
                  rw [HSH.out, Lib.extract_to_end])
                have HB2 := Lib.hid hB2; clear hB2
                have e1 := (HB2.out.drew.cell (p := ⟨g, (j + 1) * 2 + 1, none⟩) HGL.out).trans HC1.out
                have hRB0 : RB w g ((j + 1) * 2 + 1) val WQ.drew := RB.of HGL.out HC1.out HB2.out.drew
                have hRB1 : ∀ o, RB w g ((j + 1) * 2 + 1) val (WQ.alloc o).drew := fun o => RB.of HGL.out HC1.out (HB2.out.alloc HB2.out.size o).drew
                have HRB0 := Lib.hid hRB0; have HRB1 := Lib.hid hRB1
                have hgw : g < WQ.heap.size := Nat.lt_of_lt_of_le HGL.out HB2.out.size
                clear hRB0 hRB1 hTX hRW e1 d0
                go_wp2_with fail
                go_region_held3 (fun w' => w'.cell? ⟨g, (j + 1) * 2 + 1, none⟩ = some (.string val) ∧ Below w.heap.size w w')
                  (first | exact HRB0.out | exact HRB1.out _ | exact RB.alloc (by assumption) HGL.out HC1.out _ | exact RB.call (by assumption) HGL.out HC1.out hb4 | exact RB.call (by assumption) HGL.out HC1.out hb3)
                  (first
                    | (go_at_call 36; refine (HRW.out _).mono ?_; rintro e w3 ⟨rfl, hb3⟩)
                    | (go_at_call 37; (with_reducible refine (HTX.out _ _ (Below.refl _ _)).mono ?_); rintro e w4 ⟨rfl, hb4⟩)
                    | (go_at_call 37; (with_reducible refine (HTX.out _ _ (Below.refl _ _).drew).mono ?_); rintro e w4 ⟨rfl, hb4⟩)
                    | (go_at_call 37; (with_reducible refine (HTX.out _ _ hb3).mono ?_); rintro e w4 ⟨rfl, hb4⟩)
                    | (go_at_call 37; (with_reducible refine (HTX.out _ _ (undrew hb3)).mono ?_); rintro e w4 ⟨rfl, hb4⟩))
                all_goals
                  go_wp2_with fail
                  go_roundw
                  case rel => exact ⟨(j + 1) + 1, S ++ RW ++ TX, F, by omega, by go_num, rfl, rfl, Lib.hid ⟨HEND.out, HFE.out⟩, by first | exact Lib.hid (And.right (show RB w g _ val w4 by assumption)) | exact Lib.hid (And.right (show RB w g _ val w3 by assumption))⟩
                  case measure => simp [intOf]; omega
            · have hc1 : decide ((q : Int) < pk.size) = false := decide_eq_false (by omega)
              clear hqs
              go_wp2_with fail
              go_quiet (fail)
              have hB2 := below_drewN HBQ.out nq
              have hWs : wr.heap.size = (wr.drewN nq).heap.size := rfl
              generalize wr.drewN nq = WQ at *
              obtain ⟨RW, hRW⟩ : ∃ z : ByteArray, z = ⟨(Nm.row q).toArray⟩ := ⟨_, rfl⟩
              obtain ⟨TX, hTX⟩ : ∃ z : ByteArray, z = ⟨(textl [key.extract q key.size, val]).toArray⟩ := ⟨_, rfl⟩
              have hRz : RW.size ≤ 9 := by rw [hRW, size_mk]; exact (Nm.row_length q).2
              have hkx : (key.extract q key.size).size ≤ 1024 := by rw [ByteArray.size_extract]; omega
              have hTz : TX.size ≤ 3000 := by
                rw [hTX, size_mk]
                have := textl_length [key.extract q key.size, val]
                simp only [suml, List.length_cons, List.length_nil] at this
                omega
              have hshk : (q : Int) ≤ key.size := by have := HSB.out.2; omega
              have hsh0 : (0 : Int) ≤ q := by omega
              have hwsh : IntKind.u64.wrap (q : Int) = q := by have := HSB.out.2; rw [IntKind.wrap_u64]; omega
              clear hWs hc1

              have HRW : Hid (∀ W, Calls Try.prog 36 #[.int .u64 (q : Int)] W (Gives (.string RW) W)) := Lib.hid (fun W => by
                have := refRow_any (q : Int) W (by omega) (by omega)
                rw [hRW]
                exact this)
              have HTX : Hid (∀ W0 W : World, Below (W0.alloc (.cells #[.string (key.extract q key.size), .string val] 9)).heap.size (W0.alloc (.cells #[.string (key.extract q key.size), .string val] 9)) W → Calls Try.prog 37 #[.slice (some ⟨W0.heap.size, 0, none⟩) 2 2] W (Gives (.string TX) W)) := Lib.hid (fun (W0 W : World) hb => by
                have h1 : SeesS (W0.alloc (.cells #[.string (key.extract q key.size), .string val] 9)) (.slice (some ⟨W0.heap.size, 0, none⟩) 2 2) [(key.extract q key.size), val] := seesS_heap2 (heap_alloc_new W0 _)
                have := refText_any _ _ _ [(key.extract q key.size), val] W (h1.below hb) (by omega) (by simp only [suml]; omega)
                rw [hTX]
                exact this)
              have hadd1 : ¬ 9223372036854775807 < S.size + RW.size := by omega
              have hadd2 : ¬ 9223372036854775807 < (S ++ RW).size + TX.size := by rw [ByteArray.size_append]; omega
              have hadd3 : ¬ 9223372036854775807 < S.size + RW.size + TX.size := by omega
              have HEND : Hid ((S ++ RW ++ TX).data.toList = (run st0 (l.take ((j + 1) + 1))).rows) := Lib.hid (by
                rw [HST.out, hTX, hRW]
                show _ = (run st0 (l.take ((j + 1)))).rows ++ one (run st0 (l.take ((j + 1)))) ⟨key, val⟩
                rw [ByteArray.data_append, ByteArray.data_append, Array.toList_append, Array.toList_append, HSF.out.1, List.append_assoc, textl_pair]
                unfold one
                rw [HSH.out, Lib.extract_to_end])
              have HB2 := Lib.hid hB2; clear hB2
              have e1 := (HB2.out.drew.cell (p := ⟨g, (j + 1) * 2 + 1, none⟩) HGL.out).trans HC1.out
              have hRB0 : RB w g ((j + 1) * 2 + 1) val WQ.drew := RB.of HGL.out HC1.out HB2.out.drew
              have hRB1 : ∀ o, RB w g ((j + 1) * 2 + 1) val (WQ.alloc o).drew := fun o => RB.of HGL.out HC1.out (HB2.out.alloc HB2.out.size o).drew
              have HRB0 := Lib.hid hRB0; have HRB1 := Lib.hid hRB1
              have hgw : g < WQ.heap.size := Nat.lt_of_lt_of_le HGL.out HB2.out.size
              clear hRB0 hRB1 hTX hRW e1 d0
              go_wp2_with fail
              go_region_held3 (fun w' => w'.cell? ⟨g, (j + 1) * 2 + 1, none⟩ = some (.string val) ∧ Below w.heap.size w w')
                (first | exact HRB0.out | exact HRB1.out _ | exact RB.alloc (by assumption) HGL.out HC1.out _ | exact RB.call (by assumption) HGL.out HC1.out hb4 | exact RB.call (by assumption) HGL.out HC1.out hb3)
                (first
                  | (go_at_call 36; refine (HRW.out _).mono ?_; rintro e w3 ⟨rfl, hb3⟩)
                  | (go_at_call 37; (with_reducible refine (HTX.out _ _ (Below.refl _ _)).mono ?_); rintro e w4 ⟨rfl, hb4⟩)
                  | (go_at_call 37; (with_reducible refine (HTX.out _ _ (Below.refl _ _).drew).mono ?_); rintro e w4 ⟨rfl, hb4⟩)
                  | (go_at_call 37; (with_reducible refine (HTX.out _ _ hb3).mono ?_); rintro e w4 ⟨rfl, hb4⟩)
                  | (go_at_call 37; (with_reducible refine (HTX.out _ _ (undrew hb3)).mono ?_); rintro e w4 ⟨rfl, hb4⟩))
              all_goals
                go_wp2_with fail
                go_roundw
                case rel => exact ⟨(j + 1) + 1, S ++ RW ++ TX, F, by omega, by go_num, rfl, rfl, Lib.hid ⟨HEND.out, HFE.out⟩, by first | exact Lib.hid (And.right (show RB w g _ val w4 by assumption)) | exact Lib.hid (And.right (show RB w g _ val w3 by assumption))⟩
                case measure => simp [intOf]; omega
    · obtain rfl : k = n := by omega
      have ht : l.take k = l := List.take_of_length_le (by rw [HL.out]; exact Nat.le_refl _)
      rw [ht] at HSF HKN
      have HF4 := Lib.hid (fun W => four_any k W (by omega))
      have hpz := place_size k
      have hadd1 : ¬ 9223372036854775807 < S.size + F.size := by omega
      have hadd2 : ¬ 9223372036854775807 < (S ++ F).size + (place k).size := by rw [ByteArray.size_append]; omega
      have hadd3 : ¬ 9223372036854775807 < S.size + F.size + (place k).size := by omega
      have HE : Hid ((⟨(bytes l).toArray⟩ : ByteArray) = S ++ F ++ place k) := Lib.hid (by
        apply ByteArray.ext
        apply Array.toList_inj.1
        rw [ByteArray.data_append, ByteArray.data_append, Array.toList_append, Array.toList_append, HSF.out.1, HSF.out.2]
        show bytes l = _
        unfold bytes fin
        rw [HKN.out, List.append_assoc]
        rfl)
      generalize place k = PL at *
      clear hpz ht
      go_wp2_with fail
      refine (HF4.out _).mono ?_
      rintro e w2 ⟨rfl, hb2⟩
      go_wp2_with fail
      go_ret
      rw [HE.out]
      exact ⟨rfl, HB.out.trans (hb2.mono HB.out.size)⟩
end Go.Proofs.Ytjpmcphfiiiecaa.Bo
