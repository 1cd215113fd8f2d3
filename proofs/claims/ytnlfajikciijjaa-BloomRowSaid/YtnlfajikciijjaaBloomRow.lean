/- The walk of BloomRow. -/
import Derived.Test.YtnlfajikciijjaaBlU
import Derived.Deep.QuietTactic
import Derived.BigQuiet
import Derived.RegionTactic
import Derived.ChangeAlike
namespace Go.Proofs.Ytnlfajikciijjaa
open Go.RowKit

theorem below_drewN {B : Nat} {a w : World} (h : Below B a w) (q : Nat) : Below B a (w.drewN q) := ⟨h.os, h.tape, h.output, h.size, h.block⟩

set_option maxHeartbeats 4000000 in
set_option maxRecDepth 100000 in
theorem row_walk (a0 : Option Addr) (len0 cap0 : Nat) (l0 : List ByteArray) (a1 a2 : Int) (W : World) (s0 : SeesS W (.slice a0 len0 cap0) l0) (e0 : l0.length = len0) (b0 : ∀ s ∈ l0, s.size ≤ 9223372036854775807)
    (h1 : 0 ≤ a1 ∧ a1 ≤ 255) (h2 : 0 ≤ a2 ∧ a2 ≤ 255) :
    Calls Try.prog 7 #[.slice a0 len0 cap0, .int .u8 a1, .int .u8 a2] W (Gives (.bool true) W) := by
  have HV := Lib.hid s0; clear s0
  have HE := Lib.hid e0; clear e0
  have HZ := Lib.hid b0; clear b0
  obtain ⟨A1, rfl⟩ : ∃ n : Nat, a1 = n := ⟨a1.toNat, by omega⟩
  obtain ⟨A2, rfl⟩ : ∃ n : Nat, a2 = n := ⟨a2.toNat, by omega⟩
  go_enter Try.func7, Try.ntmps7
  go_wp2_with fail
  refine (great_any a0 len0 cap0 l0 _ HV.out HZ.out).mono ?_
  rintro e w' ⟨g, rfl, rfl, hg⟩
  have HG := Lib.hid hg; clear hg
  cases g with
  | true =>
    go_wp2_with fail
    refine (awake_any _).mono ?_
    rintro e w1 ⟨rfl, hb⟩
    go_wp2_with fail
    go_ret
    exact ⟨rfl, hb⟩
  | false =>
    have hlen : len0 ≤ 200 := by have := (HG.out rfl).1; have := HE.out; omega
    by_cases hz : len0 = 0
    · have hz2 : (len0 : Int) = 0 := by omega
      clear hz
      go_wp2_with fail
      refine (awake_any _).mono ?_
      rintro e w1 ⟨rfl, hb⟩
      go_wp2_with fail
      go_ret
      exact ⟨rfl, hb⟩
    · have hz2 : ((len0 : Int) == 0) = false := by rw [beq_eq_false_iff_ne]; omega
      have hpos : 0 < len0 := by omega
      clear hz
      obtain ⟨i, hi, HI⟩ : ∃ i : Nat, i < len0 ∧ Hid ((A1 : Int) % (len0 : Int) = (i : Int)) := ⟨A1 % len0, Nat.mod_lt _ hpos, Lib.hid (Int.natCast_emod A1 len0).symm⟩
      obtain ⟨k, hk, HK⟩ : ∃ k : Nat, k < len0 ∧ Hid ((A2 : Int) % (len0 : Int) = (k : Int)) := ⟨A2 % len0, Nat.mod_lt _ hpos, Lib.hid (Int.natCast_emod A2 len0).symm⟩
      have eI := HI.out
      have eK := HK.out
      obtain ⟨F, HF⟩ : ∃ F : ByteArray, Hid (F = ⟨(Bl.mk (kl l0)).toArray⟩) := ⟨_, Lib.hid rfl⟩
      go_wp2_with fail
      refine (make_any a0 len0 cap0 l0 _ HV.out HZ.out (by omega)).mono ?_
      rintro e w1 ⟨rfl, hb1⟩
      rw [← HF.out]
      have HB1 := Lib.hid hb1; clear hb1
      go_wp2_with fail
      clear eI eK hz2
      obtain ⟨hl, b, off, hc⟩ := HV.out.get
      have HC := Lib.hid hc; clear hc hl
      obtain ⟨i0, hi0, hz0, hz1, hz2⟩ := info_parts info_string
      go_loopw [10, 11] (fun v n wr => ∃ t : Nat, t ≤ len0 ∧ n = .int .i64 t ∧ Hid (OwnsS wr w1.heap.size v (rot l0 i t)) ∧ Hid (Below w1.heap.size w1 wr)) (fun _ n _ => len0 - (intOf n).toNat)
      case atStart => exact ⟨0, Nat.zero_le _, rfl, OwnsS.nil _ _, Below.refl _ _⟩
      case round =>
        obtain ⟨t, ht, rfl, HO, HBL⟩ := hrel
        by_cases hlt : t < len0
        · obtain ⟨r, hr, er, HRR⟩ : ∃ r : Nat, r < len0 ∧ ((t : Int) + (i : Int)) % (len0 : Int) = (r : Int) ∧ Hid (r = (t + i) % l0.length) := ⟨(t + i) % len0, Nat.mod_lt _ hpos, by rw [Int.natCast_emod, Int.natCast_add], Lib.hid (by rw [HE.out])⟩
          obtain ⟨ha, hb, hc⟩ := HC.out r hr
          have hcw := ((HB1.out.trans (HBL.out.mono HB1.out.size)).cell (p := ⟨b, off + r, none⟩) hb).trans hc
          subst ha
          clear hc
          have HRS : Hid (rot l0 i (t + 1) = rot l0 i t ++ [l0.getD r em]) := Lib.hid (by rw [rot_snoc, HRR.out])
          generalize l0.getD r em = s at *
          obtain ⟨T, HT⟩ : ∃ T, Hid (T = rot l0 i t) := ⟨_, Lib.hid rfl⟩
          have HTL : Hid (T.length = t) := Lib.hid (by rw [HT.out, rot_length])
          have hraw : wr.ownsRow w1.heap.size 9 1 u10 T.length (T.map .string) := by rw [HT.out]; exact HO.out
          have hszr := HBL.out.size
          go_wp2_with (at_builtin; go_must (refine wpList_append_own _ rfl _ _ 22 rfl w1.heap.size 9 i0 _ 1 16 Try.underlying22 hi0 hz0 hz1 hz2 rfl (by decide) _ _ _ rfl (hraw.alloc _) ⟨wr.heap.size, 0, none⟩ 1 1 [_] rfl rfl (cell_one_new _ _ _) ?c2 ?c3 ?c4 ?c5 ?_))
          case c2 => first | rfl | (intro u hu; simp at hu; subst hu; rfl)
          case c3 => rw [HTL.out]; unfold maxLen; omega
          case c4 => rw [HTL.out]; omega
          case c5 => first | omega | (simp; omega)
          intro v' w2 hown' hgrow _
          have HW : Hid (OwnsS w2 w1.heap.size v' (rot l0 i (t + 1)) ∧ Below w1.heap.size w1 w2) := Lib.hid (by
            refine ⟨?_, (HBL.out.alloc (by omega) _).grown hgrow (by simp; omega) (fun q hq => (hraw.lt q hq).1)⟩
            rw [HRS.out, ← HT.out]
            exact OwnsS.snoc hown')
          clear hown' hgrow hraw er
          go_wp2_with fail
          go_roundw
          case rel => exact ⟨t + 1, by omega, by go_num, HW.out.1, HW.out.2⟩
          case measure => simp [intOf]; omega
        · obtain rfl : len0 = t := by omega
          obtain ⟨T, HT⟩ : ∃ T, Hid (T = rot l0 i len0) := ⟨_, Lib.hid rfl⟩
          have HTL : T.length = len0 := by rw [HT.out, rot_length]
          rw [← HT.out] at HO
          obtain ⟨g, cap, rfl, hgb, hgs, hrow⟩ := HO.out.row (by omega)
          have HROW := Lib.hid hrow; clear hrow
          have HTLL := Lib.hid HTL
          rw [HTL]
          obtain ⟨g0, f0⟩ := HROW.out 0 (by omega)
          obtain ⟨g1, f1⟩ := HROW.out (len0 - 1) (by omega)
          obtain ⟨x0, HX0⟩ : ∃ x, Hid (x = T.getD 0 em) := ⟨_, Lib.hid rfl⟩
          obtain ⟨x1, HX1⟩ : ∃ x, Hid (x = T.getD (len0 - 1) em) := ⟨_, Lib.hid rfl⟩
          rw [← HX0.out] at g0
          rw [← HX1.out] at g1
          obtain ⟨y, hy⟩ : ∃ y, (wr.setCell ⟨g, 0, none⟩ (.string x1)).cell? ⟨g, len0 - 1, none⟩ = some y := ⟨_, ((HROW.out.set 0 x1) (len0 - 1) (by simp; omega)).1⟩
          have HS : Hid (RowS (((wr.setCell ⟨g, 0, none⟩ (.string x1)).setCell ⟨g, len0 - 1, none⟩ (.string x0))).drew g (swp T)) := Lib.hid (by
            have := (HROW.out.set 0 x1).set (len0 - 1) x0
            unfold swp
            rw [HTLL.out, ← HX0.out, ← HX1.out]
            exact this)
          have HBS : Hid (Below w1.heap.size w1 ((wr.setCell ⟨g, 0, none⟩ (.string x1)).setCell ⟨g, len0 - 1, none⟩ (.string x0)).drew) := Lib.hid
            ((HBL.out.setCell (p := ⟨g, 0, none⟩) hgb _).setCell (p := ⟨g, len0 - 1, none⟩) hgb _).drew
          have e1 : ((len0 - 1 : Nat) : Int) = (len0 : Int) - 1 := by omega
          clear HTL
          go_wp2_with fail
          have hgw : g < ((wr.setCell ⟨g, 0, none⟩ (.string x1)).setCell ⟨g, len0 - 1, none⟩ (.string x0)).drew.heap.size := by simpa using hgs
          go_region
          generalize ((wr.setCell ⟨g, 0, none⟩ (.string x1)).setCell ⟨g, len0 - 1, none⟩ (.string x0)).drew = w2 at *
          clear hy g0 f0 g1 f1 e1 HX0 HX1
          have HT2 : Hid (swp T = swp (rot l0 i l0.length)) := Lib.hid (by rw [HT.out, HE.out])
          have HFT : Hid ((⟨(Bl.mk (kl (swp T))).toArray⟩ : ByteArray) = F) := Lib.hid (by
            rw [HF.out, HT2.out, mk_turned (by rw [HE.out]; exact hi)])
          have HZT : Hid (∀ s ∈ swp T, s.size ≤ 9223372036854775807) := Lib.hid (fun s hs => by
            rw [HT2.out] at hs
            exact HZ.out s ((mem_swp_rot (by rw [HE.out]; exact hi) s).1 hs))
          have HST : Hid (SeesS w2 (.slice (some ⟨g, 0, none⟩) len0 cap) (swp T)) := Lib.hid (HS.out.sees hgw len0 cap (by rw [swp_length]; exact HTLL.out))
          have HFL : Hid (F.data.toList = Bl.mk (kl l0)) := Lib.hid (by rw [HF.out])
          have HFS : Hid (F.size = Bl.size len0) := Lib.hid (by rw [← list_size, HFL.out, Bl.mk_length, kl_length, HE.out])
          go_wp2_with fail
          refine (make_any _ len0 cap (swp T) _ HST.out HZT.out (by omega)).mono ?_
          rintro e w3 ⟨rfl, hb3⟩
          rw [HFT.out]
          have HB3 : Hid (Below W.heap.size W w3) := Lib.hid (Below.next (HB1.out.trans (HBS.out.mono HB1.out.size)) hb3)
          clear hb3
          have hraw3 := ownsS_empty w3
          have HX3 : Hid (Below w3.heap.size w3 (w3.alloc (.cells #[] 9))) := Lib.hid ((Below.refl _ _).alloc (Nat.le_refl _) _)
          have HSA := Lib.hid (HV.out.below (Below.next HB3.out HX3.out))
          go_wp2_with (at_builtin; go_must (refine wpList_append_seesS rfl _ _ rfl w3.heap.size _ [] rfl hraw3 _ _ _ l0 rfl HSA.out ?c1 ?c2 ?_))
          case c1 => simp; omega
          case c2 => exact HX3.out.size
          intro v4 w4 hown4 hgrow4
          have HX4 : Hid (Below w3.heap.size w3 w4) := Lib.hid (HX3.out.grown hgrow4 HX3.out.size (fun k hk => (hraw3.lt k hk).1))
          clear HX3 hgrow4 hraw3 HSA
          obtain ⟨g4, cap4, rfl, hgb4, hgs4, hrow4⟩ := OwnsS.row (ss := l0) hown4 (by rw [HE.out]; exact hpos)
          rw [HE.out]
          have HROW4 := Lib.hid hrow4; clear hrow4 hown4
          obtain ⟨c0, d0⟩ := HROW4.out k (by rw [HE.out]; exact hk)
          obtain ⟨c1, d1⟩ := HROW4.out i (by rw [HE.out]; exact hi)
          obtain ⟨x, HX⟩ : ∃ x, Hid (x = l0.getD k em) := ⟨_, Lib.hid rfl⟩
          obtain ⟨z, HZZ⟩ : ∃ x, Hid (x = l0.getD i em) := ⟨_, Lib.hid rfl⟩
          rw [← HX.out] at c0
          rw [← HZZ.out] at c1
          have HS4 : Hid (SeesS (w4.setCell ⟨g4, i, none⟩ (.string x)) (.slice (some ⟨g4, 0, none⟩) len0 cap4) (l0.set i x)) := Lib.hid
            ((HROW4.out.set i x).sees (by simpa using hgs4) len0 cap4 (by rw [List.length_set]; exact HE.out))
          have HB4 : Hid (Below W.heap.size W (w4.setCell ⟨g4, i, none⟩ (.string x))) := Lib.hid
            ((Below.next HB3.out HX4.out).setCell (p := ⟨g4, i, none⟩) (Nat.le_trans HB3.out.size hgb4) _)
          have HZ4 : Hid (∀ s ∈ l0.set i x, s.size ≤ 9223372036854775807) := Lib.hid (fun s hs => by
            rw [HX.out] at hs
            exact HZ.out s (mem_twin (by rw [HE.out]; exact hk) s hs))
          have HSUB : Hid (∀ j, Bl.bit (Bl.mk (kl (l0.set i x))) j = true → Bl.bit (Bl.mk (kl l0)) j = true) := Lib.hid (fun j hj =>
            Bl.mk_sub (by rw [kl_length, kl_length, List.length_set]) (kl_mem (fun s hs => by rw [HX.out] at hs; exact mem_twin (by rw [HE.out]; exact hk) s hs)) j hj)
          have HLEN4 : Hid ((Bl.mk (kl (l0.set i x))).length = F.size) := Lib.hid (by rw [Bl.mk_length, kl_length, List.length_set, HE.out, HFS.out])
          generalize l0.set i x = l4 at *
          obtain ⟨G, HGG⟩ : ∃ G : ByteArray, Hid (G = ⟨(Bl.mk (kl l4)).toArray⟩) := ⟨_, Lib.hid rfl⟩
          have HGL : Hid (G.data.toList = Bl.mk (kl l4)) := Lib.hid (by rw [HGG.out])
          have hgs : G.size = F.size := by rw [← list_size, HGL.out, HLEN4.out]
          have HGS := Lib.hid hgs; clear hgs
          go_wp2_with fail
          refine (make_any _ len0 cap4 l4 _ HS4.out HZ4.out (by omega)).mono ?_
          rintro e w5 ⟨rfl, hb5⟩
          rw [← HGG.out]
          have HB5 := Lib.hid (Below.next HB4.out hb5); clear hb5
          have hgs := HGS.out
          have hF : F.size ≤ 1000000 := by have := HFS.out; have := Bl.size_lt len0; omega
          go_wp2_with fail
          clear hgs
          go_loopw [14] (fun n wr => ∃ t q : Nat, t ≤ F.size ∧ n = .int .i64 t ∧ wr = w5.drewN q) (fun n _ => F.size - (intOf n).toNat)
          case atStart => exact ⟨0, 0, Nat.zero_le _, rfl, rfl⟩
          case round =>
            obtain ⟨t, q, ht, rfl, rfl⟩ := hrel
            by_cases hlt2 : t < F.size
            · have hz := andNot_zero (a := G.data.toList) (b := F.data.toList) t (by rw [HGL.out, HFL.out]; exact HSUB.out)
              have hxg := index_byte G t (by rw [HGS.out]; exact hlt2)
              have hxf := index_byte F t hlt2
              rw [list_get G t (by rw [HGS.out]; exact hlt2), list_get F t hlt2] at hz
              have hltg : t < G.size := by rw [HGS.out]; exact hlt2
              go_wp2_with fail
              go_quiet (fail)
              go_wp2_with fail
              go_roundw
              case rel => exact ⟨t + 1, _, by omega, by go_num, rfl⟩
              case measure => simp [intOf]; omega
            · go_wp2_with fail
              refine (awake_any _).mono ?_
              rintro e w6 ⟨rfl, hb6⟩
              go_wp2_with fail
              go_ret
              exact ⟨rfl, Below.next (below_drewN HB5.out q) hb6⟩

end Go.Proofs.Ytnlfajikciijjaa
