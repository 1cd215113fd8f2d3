/- The walk of FrameTail. -/
import Derived.Test.YtalmkgjinabceaaDoorFrT
namespace Go.Proofs.YtalmkgjinabceaaDoor
open Go.RowKit

set_option maxRecDepth 100000 in
set_option maxHeartbeats 40000000 in
theorem tail_walk (a0 : Option Addr) (n0 c0 : Nat) (l0 : List ByteArray) (cut at_ mask : Int) (w : World) (hT : Tab w)
    (hV0 : SeesS w (.slice a0 n0 c0) l0) (hn0 : l0.length = n0) (hz0 : ∀ s ∈ l0, s.size ≤ 9223372036854775807) (hcap : n0 ≤ c0) (hcut : 0 ≤ cut ∧ cut ≤ 65535) (hat : 0 ≤ at_ ∧ at_ ≤ 65535) (hmask : 0 ≤ mask ∧ mask ≤ 4294967295) :
    Calls Tryd.prog 7 #[.slice a0 n0 c0, .int .u16 cut, .int .u16 at_, .int .u32 mask] w (Gives (.bool true) w) := by
  have HT := Lib.hid hT; have HS0 := Lib.hid hV0; have HN0 := Lib.hid hn0; have HZ0 := Lib.hid hz0; have HCAP := Lib.hid hcap
  clear hT hV0 hn0 hz0 hcap
  obtain ⟨hcut0, hcut1⟩ := hcut
  obtain ⟨hat0, hat1⟩ := hat
  obtain ⟨m, rfl⟩ := Int.eq_ofNat_of_zero_le hmask.1
  have HM : Hid (m < 4294967296) := Lib.hid (by omega)
  clear hmask
  go_enter Tryd.func7, Tryd.ntmps7
  go_wp2_with fail
  refine (great_any _ _ _ l0 _ HS0.out HZ0.out).mono ?_
  rintro e w' ⟨g, rfl, rfl, hg⟩
  cases g with
  | true =>
    go_wp2_with fail
    refine (awake_any _ HT.out).mono ?_
    rintro e w1 ⟨rfl, hb1⟩
    have HB1 := Lib.hid hb1; clear hb1
    go_wp2_with fail
    go_ret
    exact ⟨rfl, HB1.out⟩
  | false =>
    have HG0 := Lib.hid (hg rfl); clear hg
    have HH0 := Lib.hid (short_of HG0.out.2)
    have HFEW := Lib.hid (frames_few HG0.out.1 HG0.out.2)
    go_wp2_with fail
    refine (write_any _ _ _ l0 _ HS0.out HT.out HZ0.out (by have := HN0.out; have := HG0.out.1; omega)).mono ?_
    rintro e w1 ⟨rfl, hb1⟩
    rw [wrV_ok HH0.out]
    have HB1 := Lib.hid hb1; clear hb1
    obtain ⟨S, hS⟩ : ∃ S : ByteArray, S = ⟨(Cr.frames l0).toArray⟩ := ⟨_, rfl⟩
    rw [← hS]
    have HSL : Hid (S.data.toList = Cr.frames l0) := by rw [hS]; exact Lib.hid rfl
    have hsz : S.size ≤ 129920 := by rw [hS]; exact HFEW.out
    clear hS
    obtain ⟨c, hc⟩ : ∃ c : Nat, c = cut.toNat % (S.size + 1) := ⟨_, rfl⟩
    have hmod : cut % ((S.size : Int) + 1) = (c : Int) := by rw [hc, Int.natCast_emod, Int.natCast_add, Int.toNat_of_nonneg hcut0]; rfl
    have hcle : c ≤ S.size := by rw [hc]; have := Nat.mod_lt cut.toNat (show 0 < S.size + 1 by omega); omega
    obtain ⟨T, hT⟩ : ∃ T, S.extract 0 c = T := ⟨_, rfl⟩
    have hTs : T.size = c := by rw [← hT, Cr.size_extract']; omega
    have HPRE : Hid (T.data.toList = (Cr.frames l0).take T.size) := by
      rw [hTs, ← hT, Cr.extract_list, List.drop_zero, Nat.sub_zero, HSL.out]; exact Lib.hid rfl
    have hts : (T.size : Int) ≤ 129920 := by omega
    have hs1 : (S.size : Int) ≤ 129920 := by omega
    have hcI : (c : Int) ≤ S.size := by omega
    have HTS := Lib.hid (show T.size ≤ 129920 by omega)
    clear hc hsz hcle hTs HSL
    by_cases hpos : T.size = 0
    · have hno : ¬ 0 < T.size := by omega
      clear hpos
      have HARM : Hid (Harm l0 T T 0 T.size) := harm_none HPRE.out
      have HUB : Hid (T.size ≤ 1000000000) := Lib.hid (by omega)
      have HB3 := HB1
      clear HB1 HPRE
      go_wp2_with fail
      clear hmod hT hs1 hcI hno
      go_loopw [15, 16] (fun ws i wq => ∃ q W : Nat, q ≤ n0 ∧ i = .int .i64 q ∧ ws = .int .i64 W ∧ (W : Int) ≤ T.size ∧ Hid (W = (Cr.frames (l0.take q)).length) ∧ Hid (Below w.heap.size w wq)) (fun _ i _ => n0 - (intOf i).toNat)
      case atStart => exact ⟨0, 0, Nat.zero_le _, rfl, rfl, by omega, Lib.hid rfl, HB3⟩
      case round =>
        obtain ⟨q, W, hq, rfl, rfl, hW, HW, HB4⟩ := hrel
        clear HB3
        have hn60 : (n0 : Int) ≤ 60 := by have := HN0.out; have := HG0.out.1; omega
        by_cases hlt : q < n0
        · obtain ⟨hlen0, b, off, hcell0⟩ := HS0.out.get
          obtain ⟨ha, hbl, hcl⟩ := hcell0 q hlt
          have hc2 := (HB4.out.cell (p := ⟨b, off + q, none⟩) hbl).trans hcl
          have hq' : q < l0.length := by omega
          have hrs : (l0.getD q ByteArray.empty).size ≤ 524288 := by rw [getD_at hq']; exact HH0.out _ (List.getElem_mem hq')
          have HNX : Hid ((Cr.frames (l0.take (q + 1))).length = W + (⟨(Cr.frames [l0.getD q ByteArray.empty]).toArray⟩ : ByteArray).size) := by
            rw [frames_snoc hq', List.length_append, HW.out]; exact Lib.hid (by show _ = _ + (Cr.frames _).length; rw [Cr.frames_one])
          subst ha
          clear hcell0 hlen0 hcl hq'
          have HSZ1 : Hid ((⟨(Cr.frames [l0.getD q ByteArray.empty]).toArray⟩ : ByteArray).size ≤ 1000000) := by
            show Hid ((Cr.frames _).length ≤ _)
            rw [Cr.frames_one, Cr.frame_length]
            have := cells_small hrs
            exact Lib.hid (by omega)
          generalize l0.getD q ByteArray.empty = r at *
          have HONE : Hid (∀ s ∈ [r], s.size ≤ 524288) := Lib.hid (fun s hs => by obtain rfl := List.mem_singleton.1 hs; exact hrs)
          clear hrs
          go_wp2_with fail
          refine (write_any _ _ _ [r] _ (sees_one _ r _ _) ((HT.out.below HB4.out).alloc _) (fun s hs => Nat.le_trans (HONE.out s hs) (by decide)) (by omega)).mono ?_
          rintro e w5 ⟨rfl, hb5⟩
          rw [wrV_ok HONE.out]
          have HB5 : Hid (Below w.heap.size w w5) := Lib.hid (Below.next (Below.next_alloc HB4.out _) hb5)
          clear hb5 HB4
          generalize (⟨(Cr.frames [r]).toArray⟩ : ByteArray) = F at *
          have hF : (F.size : Int) ≤ 1000000 := by have := HSZ1.out; omega
          by_cases hbr : (T.size : Int) < (W : Int) + (F.size : Int)
          · skip
            have HRD : Hid (Cr.rda T.data.toList = (l0.take q, W)) := by
              have h1 := HARM.out.read (k := q) HH0.out (by have := HN0.out; omega) (by rw [← HW.out]; omega) (fun _ => by rw [HNX.out]; omega)
              rw [← HW.out] at h1
              exact h1
            have HLQ : Hid ((l0.take q).length = q) := by rw [List.length_take]; have := HN0.out; exact Lib.hid (by omega)
            have HQC : Hid (q ≤ c0) := Lib.hid (by have := HCAP.out; omega)
            have hqn : q ≤ n0 := by omega
            have HQN := Lib.hid hqn
            clear HW HARM hqn
            go_wp2_with fail
            refine (fread_any T _ (HT.out.below HB5.out) HUB.out).mono ?_
            rintro e w6 ⟨v6, rfl, ho6, hb6⟩
            rw [HRD.out] at ho6 ⊢
            obtain ⟨a6, c6, rfl, hs6⟩ := ho6.at
            have HB6 : Hid (Below w.heap.size w w6) := Lib.hid (Below.next HB5.out hb6)
            have HS6 := Lib.hid hs6
            obtain ⟨a9, hsl9, hs9⟩ := slice_first (HS0.out.below HB6.out) q HQN.out HQC.out
            have HS6b := Lib.hid hs9
            clear hb6 ho6 hs6 hs9 HB5 HRD
            dsimp only
            rw [HLQ.out] at HS6 ⊢
            go_wp2_with fail
            have hq9 : q ≤ 1000000000 := by have := HQN.out; have := HG0.out.1; have := HN0.out; omega
            have h9 := same_yes a6 a9 q c6 q c0 (l0.take q) w6 HS6.out HS6b.out hq9
            refine h9.mono ?_
            rintro e w7 ⟨rfl, hb7⟩
            have HB7 : Hid (Below w.heap.size w w7) := Lib.hid (Below.next HB6.out hb7)
            clear hb7 HB6 HS6 HS6b hsl9 h9
            go_wp2_with fail
            refine (awake_any _ (HT.out.below HB7.out)).mono ?_
            rintro e w8 ⟨rfl, hb8⟩
            have HB8 : Hid (Below w.heap.size w w8) := Lib.hid (Below.next HB7.out hb8)
            clear hb8 HB7
            go_wp2_with fail
            go_ret
            exact ⟨rfl, HB8.out⟩
          · have hle : (W : Int) + (F.size : Int) ≤ (T.size : Int) := by omega
            clear hbr
            go_wp2_with fail
            go_roundw
            case rel => exact ⟨q + 1, W + F.size, by omega, by go_num, by go_num, by omega, HNX.symm, HB5⟩
            case measure => simp [intOf]; omega
        · obtain rfl : n0 = q := by omega
          clear hlt
          have HRD : Hid (Cr.rda T.data.toList = (l0.take n0, W)) := by
            have h1 := HARM.out.read (k := n0) HH0.out (by have := HN0.out; omega) (by rw [← HW.out]; omega) (fun hlt2 => absurd hlt2 (by have := HN0.out; omega))
            rw [← HW.out] at h1
            exact h1
          have HLQ : Hid ((l0.take n0).length = n0) := by rw [List.length_take]; have := HN0.out; exact Lib.hid (by omega)
          have HQC : Hid (n0 ≤ c0) := Lib.hid (by have := HCAP.out; omega)
          have hqn : n0 ≤ n0 := by omega
          have HQN := Lib.hid hqn
          clear HW HARM hqn
          go_wp2_with fail
          refine (fread_any T _ (HT.out.below HB4.out) HUB.out).mono ?_
          rintro e w6 ⟨v6, rfl, ho6, hb6⟩
          rw [HRD.out] at ho6 ⊢
          obtain ⟨a6, c6, rfl, hs6⟩ := ho6.at
          have HB6 : Hid (Below w.heap.size w w6) := Lib.hid (Below.next HB4.out hb6)
          have HS6 := Lib.hid hs6
          obtain ⟨a9, hsl9, hs9⟩ := slice_first (HS0.out.below HB6.out) n0 HQN.out HQC.out
          have HS6b := Lib.hid hs9
          clear hb6 ho6 hs6 hs9 HB4 HRD
          dsimp only
          rw [HLQ.out] at HS6 ⊢
          go_wp2_with fail
          have hq9 : n0 ≤ 1000000000 := by have := HQN.out; have := HG0.out.1; have := HN0.out; omega
          have h9 := same_yes a6 a9 n0 c6 n0 c0 (l0.take n0) w6 HS6.out HS6b.out hq9
          refine h9.mono ?_
          rintro e w7 ⟨rfl, hb7⟩
          have HB7 : Hid (Below w.heap.size w w7) := Lib.hid (Below.next HB6.out hb7)
          clear hb7 HB6 HS6 HS6b hsl9 h9
          go_wp2_with fail
          refine (awake_any _ (HT.out.below HB7.out)).mono ?_
          rintro e w8 ⟨rfl, hb8⟩
          have HB8 : Hid (Below w.heap.size w w8) := Lib.hid (Below.next HB7.out hb8)
          clear hb8 HB7
          go_wp2_with fail
          go_ret
          exact ⟨rfl, HB8.out⟩
    · have hp : 0 < T.size := by omega
      have hp' : (0 : Int) < T.size := by omega
      obtain ⟨k, hk⟩ : ∃ k : Nat, k = at_.toNat % T.size := ⟨_, rfl⟩
      have hmk : at_ % (T.size : Int) = (k : Int) := by rw [hk, Int.natCast_emod, Int.toNat_of_nonneg hat0]
      have hkl : k ≤ 129920 := by rw [hk]; have := Nat.mod_lt at_.toNat hp; omega
      have HKL : Hid (k ≤ 1000000) := Lib.hid (by omega)
      have hne : ((T.size : Int) == 0) = false := by rw [beq_eq_false_iff_ne]; omega
      clear hk hkl hpos
      go_wp2_with fail
      refine (turned_any T k m _ (by have := HTS.out; omega) HKL.out HM.out).mono ?_
      rintro e w2 ⟨rfl, hb2⟩
      have HB2 : Hid (Below w.heap.size w w2) := Lib.hid (Below.next HB1.out hb2); clear hb2 hmod hmk hT hs1 hcI
      have HOUT := Lib.hid (turned_out T k m); have hUS := turned_size T k m
      generalize (⟨(Cr.turn T.data.toList k m 4).toArray⟩ : ByteArray) = U at *
      go_wp2_with fail
      go_loopw [12, 14] (fun hm i wr => ∃ H j : Nat, j ≤ T.size ∧ i = .int .i64 j ∧ hm = .int .i64 H ∧ (H : Int) ≤ T.size ∧ Hid (Seek T U H j) ∧ Hid (Below w.heap.size w wr)) (fun _ i _ => T.size - (intOf i).toNat)
      case atStart => exact ⟨T.size, 0, Nat.zero_le _, rfl, rfl, by omega, Lib.hid (Seek.zero T U), HB2⟩
      case round =>
        obtain ⟨H, j, hj, rfl, rfl, hH, HSK, HB3⟩ := hrel
        clear HB1 HB2
        by_cases hjl : j < T.size
        · by_cases hHT : H = T.size
          · have hjU : j < U.size := by omega
            have hx1 := index_byte T j hjl
            have hx2 := index_byte U j hjU
            by_cases heq : T[j] = U[j]
            · have HN : Hid (Seek T U T.size (j + 1)) := by rw [hHT] at HSK; exact Lib.hid (HSK.out.same hjl hUS heq)
              rw [heq] at hx1
              obtain ⟨X, hX⟩ : ∃ X : Int, X = (U[j].toNat : Int) := ⟨_, rfl⟩
              rw [← hX] at hx1 hx2
              clear hX heq
              subst hHT
              go_wp2_with fail
              go_quiet (fail)
              go_wp2_with fail
              go_roundw
              case rel => exact ⟨T.size, j + 1, by omega, by go_num, rfl, by omega, HN, Lib.hid (below_drewN HB3.out _)⟩
              case measure => simp [intOf]; omega
            · have HN : Hid (Seek T U j (j + 1)) := by rw [hHT] at HSK; exact Lib.hid (HSK.out.found hjl hUS heq)
              obtain ⟨X, hX⟩ : ∃ X : Int, X = (T[j].toNat : Int) := ⟨_, rfl⟩
              obtain ⟨Y, hY⟩ : ∃ Y : Int, Y = (U[j].toNat : Int) := ⟨_, rfl⟩
              have hxy : (X == Y) = false := by
                rw [beq_eq_false_iff_ne, hX, hY]
                intro e
                exact heq (UInt8.toNat_inj.1 (by omega))
              rw [← hX] at hx1
              rw [← hY] at hx2
              clear hX hY heq
              subst hHT
              go_wp2_with fail
              go_quiet (fail)
              go_wp2_with fail
              go_roundw
              case rel => exact ⟨j, j + 1, by omega, by go_num, rfl, by omega, HN, Lib.hid (below_drewN HB3.out _)⟩
              case measure => simp [intOf]; omega
          · have hHTI : ((H : Int) == (T.size : Int)) = false := by rw [beq_eq_false_iff_ne]; omega
            have hjlI : (j : Int) < (T.size : Int) := by omega
            have HARM : Hid (Harm l0 T U k H) := HSK.out.done HPRE.out hUS HOUT.out (Or.inr hHT)
            have HUB : Hid (U.size ≤ 1000000000) := Lib.hid (by have := HTS.out; omega)
            clear HSK HPRE HOUT
            go_wp2_with fail
            go_loopw [15, 16] (fun ws i wq => ∃ q W : Nat, q ≤ n0 ∧ i = .int .i64 q ∧ ws = .int .i64 W ∧ (W : Int) ≤ H ∧ Hid (W = (Cr.frames (l0.take q)).length) ∧ Hid (Below w.heap.size w wq)) (fun _ i _ => n0 - (intOf i).toNat)
            case atStart => exact ⟨0, 0, Nat.zero_le _, rfl, rfl, by omega, Lib.hid rfl, HB3⟩
            case round =>
              obtain ⟨q, W, hq, rfl, rfl, hW, HW, HB4⟩ := hrel
              clear HB3
              have hn60 : (n0 : Int) ≤ 60 := by have := HN0.out; have := HG0.out.1; omega
              by_cases hlt : q < n0
              · obtain ⟨hlen0, b, off, hcell0⟩ := HS0.out.get
                obtain ⟨ha, hbl, hcl⟩ := hcell0 q hlt
                have hc2 := (HB4.out.cell (p := ⟨b, off + q, none⟩) hbl).trans hcl
                have hq' : q < l0.length := by omega
                have hrs : (l0.getD q ByteArray.empty).size ≤ 524288 := by rw [getD_at hq']; exact HH0.out _ (List.getElem_mem hq')
                have HNX : Hid ((Cr.frames (l0.take (q + 1))).length = W + (⟨(Cr.frames [l0.getD q ByteArray.empty]).toArray⟩ : ByteArray).size) := by
                  rw [frames_snoc hq', List.length_append, HW.out]; exact Lib.hid (by show _ = _ + (Cr.frames _).length; rw [Cr.frames_one])
                subst ha
                clear hcell0 hlen0 hcl hq'
                have HSZ1 : Hid ((⟨(Cr.frames [l0.getD q ByteArray.empty]).toArray⟩ : ByteArray).size ≤ 1000000) := by
                  show Hid ((Cr.frames _).length ≤ _)
                  rw [Cr.frames_one, Cr.frame_length]
                  have := cells_small hrs
                  exact Lib.hid (by omega)
                generalize l0.getD q ByteArray.empty = r at *
                have HONE : Hid (∀ s ∈ [r], s.size ≤ 524288) := Lib.hid (fun s hs => by obtain rfl := List.mem_singleton.1 hs; exact hrs)
                clear hrs
                go_wp2_with fail
                refine (write_any _ _ _ [r] _ (sees_one _ r _ _) ((HT.out.below HB4.out).alloc _) (fun s hs => Nat.le_trans (HONE.out s hs) (by decide)) (by omega)).mono ?_
                rintro e w5 ⟨rfl, hb5⟩
                rw [wrV_ok HONE.out]
                have HB5 : Hid (Below w.heap.size w w5) := Lib.hid (Below.next (Below.next_alloc HB4.out _) hb5)
                clear hb5 HB4
                generalize (⟨(Cr.frames [r]).toArray⟩ : ByteArray) = F at *
                have hF : (F.size : Int) ≤ 1000000 := by have := HSZ1.out; omega
                by_cases hbr : (H : Int) < (W : Int) + (F.size : Int)
                · skip
                  have HRD : Hid (Cr.rda U.data.toList = (l0.take q, W)) := by
                    have h1 := HARM.out.read (k := q) HH0.out (by have := HN0.out; omega) (by rw [← HW.out]; omega) (fun _ => by rw [HNX.out]; omega)
                    rw [← HW.out] at h1
                    exact h1
                  have HLQ : Hid ((l0.take q).length = q) := by rw [List.length_take]; have := HN0.out; exact Lib.hid (by omega)
                  have HQC : Hid (q ≤ c0) := Lib.hid (by have := HCAP.out; omega)
                  have hqn : q ≤ n0 := by omega
                  have HQN := Lib.hid hqn
                  clear HW HARM hqn
                  go_wp2_with fail
                  refine (fread_any U _ (HT.out.below HB5.out) HUB.out).mono ?_
                  rintro e w6 ⟨v6, rfl, ho6, hb6⟩
                  rw [HRD.out] at ho6 ⊢
                  obtain ⟨a6, c6, rfl, hs6⟩ := ho6.at
                  have HB6 : Hid (Below w.heap.size w w6) := Lib.hid (Below.next HB5.out hb6)
                  have HS6 := Lib.hid hs6
                  obtain ⟨a9, hsl9, hs9⟩ := slice_first (HS0.out.below HB6.out) q HQN.out HQC.out
                  have HS6b := Lib.hid hs9
                  clear hb6 ho6 hs6 hs9 HB5 HRD
                  dsimp only
                  rw [HLQ.out] at HS6 ⊢
                  go_wp2_with fail
                  have hq9 : q ≤ 1000000000 := by have := HQN.out; have := HG0.out.1; have := HN0.out; omega
                  have h9 := same_yes a6 a9 q c6 q c0 (l0.take q) w6 HS6.out HS6b.out hq9
                  refine h9.mono ?_
                  rintro e w7 ⟨rfl, hb7⟩
                  have HB7 : Hid (Below w.heap.size w w7) := Lib.hid (Below.next HB6.out hb7)
                  clear hb7 HB6 HS6 HS6b hsl9 h9
                  go_wp2_with fail
                  refine (awake_any _ (HT.out.below HB7.out)).mono ?_
                  rintro e w8 ⟨rfl, hb8⟩
                  have HB8 : Hid (Below w.heap.size w w8) := Lib.hid (Below.next HB7.out hb8)
                  clear hb8 HB7
                  go_wp2_with fail
                  go_ret
                  exact ⟨rfl, HB8.out⟩
                · have hle : (W : Int) + (F.size : Int) ≤ (H : Int) := by omega
                  clear hbr
                  go_wp2_with fail
                  go_roundw
                  case rel => exact ⟨q + 1, W + F.size, by omega, by go_num, by go_num, by omega, HNX.symm, HB5⟩
                  case measure => simp [intOf]; omega
              · obtain rfl : n0 = q := by omega
                clear hlt
                have HRD : Hid (Cr.rda U.data.toList = (l0.take n0, W)) := by
                  have h1 := HARM.out.read (k := n0) HH0.out (by have := HN0.out; omega) (by rw [← HW.out]; omega) (fun hlt2 => absurd hlt2 (by have := HN0.out; omega))
                  rw [← HW.out] at h1
                  exact h1
                have HLQ : Hid ((l0.take n0).length = n0) := by rw [List.length_take]; have := HN0.out; exact Lib.hid (by omega)
                have HQC : Hid (n0 ≤ c0) := Lib.hid (by have := HCAP.out; omega)
                have hqn : n0 ≤ n0 := by omega
                have HQN := Lib.hid hqn
                clear HW HARM hqn
                go_wp2_with fail
                refine (fread_any U _ (HT.out.below HB4.out) HUB.out).mono ?_
                rintro e w6 ⟨v6, rfl, ho6, hb6⟩
                rw [HRD.out] at ho6 ⊢
                obtain ⟨a6, c6, rfl, hs6⟩ := ho6.at
                have HB6 : Hid (Below w.heap.size w w6) := Lib.hid (Below.next HB4.out hb6)
                have HS6 := Lib.hid hs6
                obtain ⟨a9, hsl9, hs9⟩ := slice_first (HS0.out.below HB6.out) n0 HQN.out HQC.out
                have HS6b := Lib.hid hs9
                clear hb6 ho6 hs6 hs9 HB4 HRD
                dsimp only
                rw [HLQ.out] at HS6 ⊢
                go_wp2_with fail
                have hq9 : n0 ≤ 1000000000 := by have := HQN.out; have := HG0.out.1; have := HN0.out; omega
                have h9 := same_yes a6 a9 n0 c6 n0 c0 (l0.take n0) w6 HS6.out HS6b.out hq9
                refine h9.mono ?_
                rintro e w7 ⟨rfl, hb7⟩
                have HB7 : Hid (Below w.heap.size w w7) := Lib.hid (Below.next HB6.out hb7)
                clear hb7 HB6 HS6 HS6b hsl9 h9
                go_wp2_with fail
                refine (awake_any _ (HT.out.below HB7.out)).mono ?_
                rintro e w8 ⟨rfl, hb8⟩
                have HB8 : Hid (Below w.heap.size w w8) := Lib.hid (Below.next HB7.out hb8)
                clear hb8 HB7
                go_wp2_with fail
                go_ret
                exact ⟨rfl, HB8.out⟩
        · have hjlI : (T.size : Int) ≤ (j : Int) := by omega
          have HARM : Hid (Harm l0 T U k H) := HSK.out.done HPRE.out hUS HOUT.out (Or.inl (by omega))
          have HUB : Hid (U.size ≤ 1000000000) := Lib.hid (by have := HTS.out; omega)
          clear HSK HPRE HOUT
          go_wp2_with fail
          go_loopw [15, 16] (fun ws i wq => ∃ q W : Nat, q ≤ n0 ∧ i = .int .i64 q ∧ ws = .int .i64 W ∧ (W : Int) ≤ H ∧ Hid (W = (Cr.frames (l0.take q)).length) ∧ Hid (Below w.heap.size w wq)) (fun _ i _ => n0 - (intOf i).toNat)
          case atStart => exact ⟨0, 0, Nat.zero_le _, rfl, rfl, by omega, Lib.hid rfl, HB3⟩
          case round =>
            obtain ⟨q, W, hq, rfl, rfl, hW, HW, HB4⟩ := hrel
            clear HB3
            have hn60 : (n0 : Int) ≤ 60 := by have := HN0.out; have := HG0.out.1; omega
            by_cases hlt : q < n0
            · obtain ⟨hlen0, b, off, hcell0⟩ := HS0.out.get
              obtain ⟨ha, hbl, hcl⟩ := hcell0 q hlt
              have hc2 := (HB4.out.cell (p := ⟨b, off + q, none⟩) hbl).trans hcl
              have hq' : q < l0.length := by omega
              have hrs : (l0.getD q ByteArray.empty).size ≤ 524288 := by rw [getD_at hq']; exact HH0.out _ (List.getElem_mem hq')
              have HNX : Hid ((Cr.frames (l0.take (q + 1))).length = W + (⟨(Cr.frames [l0.getD q ByteArray.empty]).toArray⟩ : ByteArray).size) := by
                rw [frames_snoc hq', List.length_append, HW.out]; exact Lib.hid (by show _ = _ + (Cr.frames _).length; rw [Cr.frames_one])
              subst ha
              clear hcell0 hlen0 hcl hq'
              have HSZ1 : Hid ((⟨(Cr.frames [l0.getD q ByteArray.empty]).toArray⟩ : ByteArray).size ≤ 1000000) := by
                show Hid ((Cr.frames _).length ≤ _)
                rw [Cr.frames_one, Cr.frame_length]
                have := cells_small hrs
                exact Lib.hid (by omega)
              generalize l0.getD q ByteArray.empty = r at *
              have HONE : Hid (∀ s ∈ [r], s.size ≤ 524288) := Lib.hid (fun s hs => by obtain rfl := List.mem_singleton.1 hs; exact hrs)
              clear hrs
              go_wp2_with fail
              refine (write_any _ _ _ [r] _ (sees_one _ r _ _) ((HT.out.below HB4.out).alloc _) (fun s hs => Nat.le_trans (HONE.out s hs) (by decide)) (by omega)).mono ?_
              rintro e w5 ⟨rfl, hb5⟩
              rw [wrV_ok HONE.out]
              have HB5 : Hid (Below w.heap.size w w5) := Lib.hid (Below.next (Below.next_alloc HB4.out _) hb5)
              clear hb5 HB4
              generalize (⟨(Cr.frames [r]).toArray⟩ : ByteArray) = F at *
              have hF : (F.size : Int) ≤ 1000000 := by have := HSZ1.out; omega
              by_cases hbr : (H : Int) < (W : Int) + (F.size : Int)
              · skip
                have HRD : Hid (Cr.rda U.data.toList = (l0.take q, W)) := by
                  have h1 := HARM.out.read (k := q) HH0.out (by have := HN0.out; omega) (by rw [← HW.out]; omega) (fun _ => by rw [HNX.out]; omega)
                  rw [← HW.out] at h1
                  exact h1
                have HLQ : Hid ((l0.take q).length = q) := by rw [List.length_take]; have := HN0.out; exact Lib.hid (by omega)
                have HQC : Hid (q ≤ c0) := Lib.hid (by have := HCAP.out; omega)
                have hqn : q ≤ n0 := by omega
                have HQN := Lib.hid hqn
                clear HW HARM hqn
                go_wp2_with fail
                refine (fread_any U _ (HT.out.below HB5.out) HUB.out).mono ?_
                rintro e w6 ⟨v6, rfl, ho6, hb6⟩
                rw [HRD.out] at ho6 ⊢
                obtain ⟨a6, c6, rfl, hs6⟩ := ho6.at
                have HB6 : Hid (Below w.heap.size w w6) := Lib.hid (Below.next HB5.out hb6)
                have HS6 := Lib.hid hs6
                obtain ⟨a9, hsl9, hs9⟩ := slice_first (HS0.out.below HB6.out) q HQN.out HQC.out
                have HS6b := Lib.hid hs9
                clear hb6 ho6 hs6 hs9 HB5 HRD
                dsimp only
                rw [HLQ.out] at HS6 ⊢
                go_wp2_with fail
                have hq9 : q ≤ 1000000000 := by have := HQN.out; have := HG0.out.1; have := HN0.out; omega
                have h9 := same_yes a6 a9 q c6 q c0 (l0.take q) w6 HS6.out HS6b.out hq9
                refine h9.mono ?_
                rintro e w7 ⟨rfl, hb7⟩
                have HB7 : Hid (Below w.heap.size w w7) := Lib.hid (Below.next HB6.out hb7)
                clear hb7 HB6 HS6 HS6b hsl9 h9
                go_wp2_with fail
                refine (awake_any _ (HT.out.below HB7.out)).mono ?_
                rintro e w8 ⟨rfl, hb8⟩
                have HB8 : Hid (Below w.heap.size w w8) := Lib.hid (Below.next HB7.out hb8)
                clear hb8 HB7
                go_wp2_with fail
                go_ret
                exact ⟨rfl, HB8.out⟩
              · have hle : (W : Int) + (F.size : Int) ≤ (H : Int) := by omega
                clear hbr
                go_wp2_with fail
                go_roundw
                case rel => exact ⟨q + 1, W + F.size, by omega, by go_num, by go_num, by omega, HNX.symm, HB5⟩
                case measure => simp [intOf]; omega
            · obtain rfl : n0 = q := by omega
              clear hlt
              have HRD : Hid (Cr.rda U.data.toList = (l0.take n0, W)) := by
                have h1 := HARM.out.read (k := n0) HH0.out (by have := HN0.out; omega) (by rw [← HW.out]; omega) (fun hlt2 => absurd hlt2 (by have := HN0.out; omega))
                rw [← HW.out] at h1
                exact h1
              have HLQ : Hid ((l0.take n0).length = n0) := by rw [List.length_take]; have := HN0.out; exact Lib.hid (by omega)
              have HQC : Hid (n0 ≤ c0) := Lib.hid (by have := HCAP.out; omega)
              have hqn : n0 ≤ n0 := by omega
              have HQN := Lib.hid hqn
              clear HW HARM hqn
              go_wp2_with fail
              refine (fread_any U _ (HT.out.below HB4.out) HUB.out).mono ?_
              rintro e w6 ⟨v6, rfl, ho6, hb6⟩
              rw [HRD.out] at ho6 ⊢
              obtain ⟨a6, c6, rfl, hs6⟩ := ho6.at
              have HB6 : Hid (Below w.heap.size w w6) := Lib.hid (Below.next HB4.out hb6)
              have HS6 := Lib.hid hs6
              obtain ⟨a9, hsl9, hs9⟩ := slice_first (HS0.out.below HB6.out) n0 HQN.out HQC.out
              have HS6b := Lib.hid hs9
              clear hb6 ho6 hs6 hs9 HB4 HRD
              dsimp only
              rw [HLQ.out] at HS6 ⊢
              go_wp2_with fail
              have hq9 : n0 ≤ 1000000000 := by have := HQN.out; have := HG0.out.1; have := HN0.out; omega
              have h9 := same_yes a6 a9 n0 c6 n0 c0 (l0.take n0) w6 HS6.out HS6b.out hq9
              refine h9.mono ?_
              rintro e w7 ⟨rfl, hb7⟩
              have HB7 : Hid (Below w.heap.size w w7) := Lib.hid (Below.next HB6.out hb7)
              clear hb7 HB6 HS6 HS6b hsl9 h9
              go_wp2_with fail
              refine (awake_any _ (HT.out.below HB7.out)).mono ?_
              rintro e w8 ⟨rfl, hb8⟩
              have HB8 : Hid (Below w.heap.size w w8) := Lib.hid (Below.next HB7.out hb8)
              clear hb8 HB7
              go_wp2_with fail
              go_ret
              exact ⟨rfl, HB8.out⟩

end Go.Proofs.YtalmkgjinabceaaDoor
