/- A list told as a whole, against the document's. -/
import Derived.Test.YtghfgffgcknbmaaSkFrom
import Derived.Test.YtghfgffgcknbmaaSkipSame
namespace Go.Proofs.Ytghfgffgcknbmaa.Sk
open Go Go.RowKit Go.Shelf
set_option linter.unusedVariables false
attribute [local go_sem] Oper.semAt_some

set_option maxHeartbeats 2000000 in
set_option maxRecDepth 100000 in
theorem whole_any {b0 : Nat} {w : World} {q ao : Option Addr} {m cap : Nat} {s r : List (It ByteArray)} (h : Lst w q s r) (hi : Items b0 w (.slice ao m cap) r)  :
    Calls Try.prog 16 #[.pointer q, .slice ao m cap] w fun e w' => e = .returned (.bool true) ∧ Below w.heap.size w w' := by
  have HL := Lib.hid h
  have HI := Lib.hid hi
  obtain rfl : m = r.length := (row_here hi).1
  have HR := Lib.hid (fun (W : World) (hb : Below w.heap.size w W) => refRow_any (hi.below hb) h.kin h.small h.few h.hgt 0)
  have h0 : rowL 0 s = s := by unfold rowL; rw [if_neg (by omega)]; exact row_zero fun y hy => (h.hgt y hy).1
  rw [h0] at HR
  clear h hi h0
  refine (callsIn_wide (n := 20)).1 ?_
  refine callsIn_of_wp_marks Try.func16 rfl trivial ?_ rfl
  simp only [Try.ntmps16, List.size_toArray, List.length_cons, List.length_nil, Nat.reduceAdd, Nat.reduceSub, Array.replicate_succ, Array.replicate_zero, List.push_toArray, List.append_toArray, List.nil_append, List.cons_append]
  refine wpIn_wide.2 ?_
  go_wp2_with fail
  obtain ⟨W1, hW1⟩ : ∃ W1, W1 = w.alloc (.cells #[.bool false] 4) := ⟨_, rfl⟩
  rw [← hW1]
  have B1 : Hid (Below w.heap.size w W1) := Lib.hid (by rw [hW1]; exact (Below.refl _ _).alloc (Nat.le_refl _) _)
  have C1 : Hid (W1.heap[w.heap.size]? = some (.cells #[.bool false] 4 (0, 0))) := Lib.hid (by rw [hW1]; exact heap_alloc_new w _)
  have S1 : Hid (W1.heap.size = w.heap.size + 1) := Lib.hid (by rw [hW1]; simp)
  clear hW1
  refine (HR.out W1 B1.out).mono ?_
  rintro e w2 ⟨v, rfl, hi2, hb2⟩
  have I2 := Lib.hid hi2
  have B2 := Lib.hid hb2
  obtain ⟨a2, cap2, e2⟩ := row_any hi2
  subst e2
  clear hi2 hb2
  go_wp2_with fail
  have hfn := func_nil
  obtain ⟨W3, hW3⟩ : ∃ W3, W3 = (w2.alloc (.cells #[.slice a2 s.length cap2] 31)).alloc (.cells #[.int .i64 0] 3) := ⟨_, rfl⟩
  rw [← hW3]
  have hb3 : Below w2.heap.size w2 W3 := by rw [hW3]; exact ((Below.refl _ w2).alloc (Nat.le_refl _) _).alloc (by simp) _
  have hs3 : W3.heap.size = w2.heap.size + 2 := by rw [hW3]; simp
  have hx1 : W3.heap[w2.heap.size]? = some (.cells #[.slice a2 s.length cap2] 31 (0, 0)) := by
    rw [hW3, RowKit.Below.heap_alloc _ _ _ (by simp)]; exact heap_alloc_new w2 _
  have hx2 : W3.heap[w2.heap.size + 1]? = some (.cells #[.int .i64 0] 3 (0, 0)) := by
    rw [hW3]
    have := heap_alloc_new (w2.alloc (.cells #[.slice a2 s.length cap2] 31)) (.cells #[.int .i64 0] 3)
    rwa [World.size_alloc] at this
  have B3 := Lib.hid hb3
  have S3 := Lib.hid hs3
  have X1 := Lib.hid hx1
  have X2 := Lib.hid hx2
  clear hW3 hb3 hs3 hx1 hx2
  refine (from_any q ⟨#[]⟩ W3 (by decide)).mono ?_
  rintro e w4 ⟨rfl, hb4, _, _⟩
  have B4 := Lib.hid hb4
  clear hb4
  go_wp2_with fail
  refine (from_any q ⟨#[]⟩ w4 (by decide)).mono ?_
  rintro e w5 ⟨rfl, hb5, hbx1, hbx2⟩
  have B5 := Lib.hid (B4.out.trans (hb5.mono B4.out.size))
  have BX := Lib.hid (And.intro hbx1 hbx2)
  clear hb5 hbx1 hbx2
  go_wp2_with fail
  obtain ⟨n₂, hn2⟩ : ∃ n₂, n₂ = w5.heap.size := ⟨_, rfl⟩
  obtain ⟨Wr, hWr⟩ : ∃ Wr : Nat → Prop, Wr = fun k => k = w2.heap.size + 1 ∨ n₂ ≤ k := ⟨_, rfl⟩
  have HN2 := Lib.hid hn2
  have HWR := Lib.hid hWr
  have hl5 : w4.heap.size < w5.heap.size := World.block_lt_of_cell? _ _ BX.out.1
  have hl4 := B4.out.size
  have hl2 := B2.out.size
  have hl1 := B1.out.size
  have HSZ : Hid (w.heap.size < w2.heap.size ∧ w2.heap.size + 2 ≤ w4.heap.size ∧ w4.heap.size < w5.heap.size) := Lib.hid (by
    have := S1.out
    have := S3.out
    omega)
  have B25 : Hid (Below w2.heap.size w2 w5) := Lib.hid (B3.out.trans (B5.out.mono B3.out.size))
  have BW5 : Hid (Below w.heap.size w w5) := Lib.hid ((B1.out.trans (B2.out.mono B1.out.size)).trans (B25.out.mono (by have := HSZ.out; omega)))
  have BW2 : Hid (Below w.heap.size w w2) := Lib.hid (B1.out.trans (B2.out.mono B1.out.size))
  have HLOW : Hid (∀ b, b < w2.heap.size + 1 → ¬ Wr b) := Lib.hid (fun b hb => by
    have := HSZ.out
    rw [HWR.out]
    rintro (e | e) <;> omega)
  have HB2 : Hid (¬ Wr w4.heap.size) := Lib.hid (by
    have := HSZ.out
    rw [HWR.out]
    rintro (e | e) <;> omega)
  have HWU : Hid (∀ k, w5.heap.size ≤ k → Wr k) := Lib.hid (fun k hk => by rw [HWR.out]; exact Or.inr (by rw [HN2.out]; exact hk))
  have HWB : Hid (Wr (w2.heap.size + 1)) := Lib.hid (by rw [HWR.out]; exact Or.inl rfl)
  have HC0 : Hid (w5.cell? ⟨w2.heap.size + 1, 0, none⟩ = some (.int .i64 (([] : List (It ByteArray)).length : Int)) ∧ w5.frozen? ⟨w2.heap.size + 1, 0, none⟩ = false) := Lib.hid (by
    have hb := (B5.out.block _ (heap_lt X2.out)).trans X2.out
    exact ⟨by rw [cell_of hb]; rfl, unfrozen_of hb 0⟩)
  have HC1 : Hid (w5.heap[w2.heap.size]? = some (.cells #[.slice a2 s.length cap2] 31 (0, 0))) := Lib.hid ((B5.out.block _ (heap_lt X1.out)).trans X1.out)
  have HCR : Hid (w5.heap[w.heap.size]? = some (.cells #[.bool false] 4 (0, 0))) := Lib.hid ((B25.out.block _ (by have := HSZ.out; omega)).trans ((B2.out.block _ (heap_lt C1.out)).trans C1.out))
  have I5 : Hid (Items W1.heap.size w5 (.slice a2 s.length cap2) s) := Lib.hid (I2.out.below B25.out)
  have hfew : s.length ≤ 100000 := by rw [HL.out.kin.len]; exact HL.out.few
  have HFEW := Lib.hid hfew
  clear hn2 hWr hl5 hl4 hl2 hl1 hfew
  refine range_two (n := 20) 7 8 (by decide) (lb := #[.pointer (some ⟨w4.heap.size, 0, none⟩), .pointer (some ⟨w4.heap.size + 1, 0, none⟩)]) rfl
    (from_stopsL 19 (by decide) w4.heap.size (w4.heap.size + 1) Wr (HL.out.below BW2.out) B25.out (fun b hb => HLOW.out b (by omega)) BX.out.1 BX.out.2 HB2.out) turnsK_t (turnsK_b HWU.out)
    (fun pre W => (W.cell? ⟨w2.heap.size + 1, 0, none⟩ = some (.int .i64 (pre.length : Int)) ∧ W.frozen? ⟨w2.heap.size + 1, 0, none⟩ = false) ∧ (kv pre = (kv s).take pre.length ∧ pre.length ≤ s.length) ∧ Turns Wr w5 W)
    (fun c pre W => c = .ret ∧ ¬ kv pre <+: kv s)
    (OwnFrom.and (Go.Own.from (fun s A B row hs hg hr => ⟨cell_kept hs.1 hg hr, (frozen_kept hs.1 hg hr).trans hs.2⟩) _) (OwnFrom.and (fun _ _ _ _ hs _ _ => hs) (turns_from HWU.out))) (fun _ _ _ _ _ hs _ _ => hs) ⟨HC0.out, ⟨rfl, Nat.zero_le _⟩, Turns.refl _ _⟩ ?assign ?body ?done ?stop
  case assign =>
    intro lp x W2 K hK
    unfold roundTmps at hK
    simp only [List.setIfInBounds_toArray, List.set_cons_succ, List.set_cons_zero] at hK ⊢
    gi_wp2
    exact hK
  case stop =>
    rintro D2 c pre W2 _ hpre ⟨rfl, hnot⟩ _
    exact absurd (hpre.map _) hnot
  case body =>
    rintro lp pre x W ⟨⟨cn, fn⟩, ⟨hkv, hle⟩, ht⟩ hlt
    have hkb : ∀ b, b < w2.heap.size + 1 → W.heap[b]? = w5.heap[b]? := fun b hb => ht.block b (by have := HSZ.out; omega) (HLOW.out b hb)
    have c1 : W.cell? ⟨w2.heap.size, 0, none⟩ = some (.slice a2 s.length cap2) := by rw [cell_of ((hkb _ (by omega)).trans HC1.out)]; rfl
    have hR := (hkb w.heap.size (by have := HSZ.out; omega)).trans HCR.out
    have cR : W.cell? ⟨w.heap.size, 0, none⟩ = some (.bool false) := by rw [cell_of hR]; rfl
    have fR := unfrozen_of hR 0
    have HT := Lib.hid ht
    have HKV := Lib.hid hkv
    unfold roundTmps
    simp only [List.setIfInBounds_toArray, List.set_cons_succ, List.set_cons_zero]
    by_cases hn : pre.length < s.length
    · obtain ⟨y, hy⟩ : ∃ y, s[pre.length]? = some y := ⟨s[pre.length], List.getElem?_eq_getElem _⟩
      have hI : Items W1.heap.size W (.slice a2 s.length cap2) s := ownsRow_frame I5.out (w' := W) fun b hb => hkb b (by have := ownsRow_lt I2.out hb; omega)
      obtain ⟨g, rfl, _, d0, d1, _⟩ := hI.get hy
      have hni : (pre.length : Int) < s.length := by omega
      have HY := Lib.hid hy
      have HKY : Hid (∀ z, s[pre.length]? = some z → z = y) := Lib.hid (fun z hz => Option.some.inj (hz.symm.trans hy))
      obtain ⟨m, hm⟩ : ∃ m, m = pre.length := ⟨_, rfl⟩
      rw [← hm] at cn d0 d1 hni
      have HM := Lib.hid hm
      have hmb : (m : Int) ≤ 100000 := by
        have h1 := HFEW.out
        omega
      have hwm : wrap64 ((m : Int) + 1) = (m : Int) + 1 := by unfold wrap64; omega
      clear hI hy hm hn hle hlt hkb hkv ht hR
      by_cases e1 : x.key = y.key
      · by_cases e2 : x.val = y.val
        · have HK := Lib.hid (kv_snoc HKV.out HY.out e1 e2)
          rw [← e1] at d0
          rw [← e2] at d1
          have HLE : Hid ((pre ++ [x]).length ≤ s.length) := Lib.hid (by have := (List.getElem?_eq_some_iff.1 HY.out).1; simp; omega)
          clear e1 e2
          gi_wp2
          have hml : wrap64 ((m : Int) + 1) = ((pre ++ [x]).length : Int) := by rw [List.length_append, ← HM.out, hwm]; rfl
          exact ⟨KeepsOthers.setCell _ _ _, Turns.of_setCell (P := Wr) _ _ _ HWB.out, ⟨by first | (rw [hml]; exact World.cell?_setCell_same' _ _ _ (by rw [cn]; rfl)) | (rw [← hml, hwm]; exact World.cell?_setCell_same' _ _ _ (by rw [cn]; rfl)) | exact World.cell?_setCell_same' _ _ _ (by rw [cn]; rfl), by rw [World.frozen?_setCell]; exact fn⟩, ⟨HK.out, HLE.out⟩, HT.out.trans (Turns.of_setCell (P := Wr) _ _ _ HWB.out) (fun _ hx => Or.inl hx)⟩
        · have HNOT : Hid (¬ kv (pre ++ [x]) <+: kv s) := Lib.hid (fun h => by
            obtain ⟨z, hz, _, h4⟩ := kv_not h
            rw [HKY.out z hz] at h4
            exact e2 h4.symm)
          have hne : (x.val.toList == y.val.toList) = false := beq_false_of_ne fun e => e2 (str_eq e)
          have hne2 : ¬ x.val.toList = y.val.toList := fun e => e2 (str_eq e)
          rw [← e1] at d0
          clear e1 e2
          gi_wp2
          exact ⟨KeepsOthers.setCell _ _ _, rfl, HNOT.out⟩
      · have HNOT : Hid (¬ kv (pre ++ [x]) <+: kv s) := Lib.hid (fun h => by
          obtain ⟨z, hz, h4, _⟩ := kv_not h
          rw [HKY.out z hz] at h4
          exact e1 h4.symm)
        have hne : ((txt x.key).toList == (txt y.key).toList) = false := by rw [txt_list, txt_list]; exact beq_false_of_ne e1
        have hne2 : ¬ (txt x.key).toList = (txt y.key).toList := by rw [txt_list, txt_list]; exact e1
        clear e1
        gi_wp2
        exact ⟨KeepsOthers.setCell _ _ _, rfl, HNOT.out⟩
    · have HNOT : Hid (¬ kv (pre ++ [x]) <+: kv s) := Lib.hid (fun h => by
        obtain ⟨z, hz, _⟩ := kv_not h
        exact hn (List.getElem?_eq_some_iff.1 hz).1)
      have hni : (s.length : Int) ≤ pre.length := by omega
      obtain ⟨m, hm⟩ : ∃ m, m = pre.length := ⟨_, rfl⟩
      rw [← hm] at cn hni
      have HM := Lib.hid hm
      clear hm hn hle hlt hkb hkv ht hR
      gi_wp2
      exact ⟨KeepsOthers.setCell _ _ _, rfl, HNOT.out⟩
  case done =>
    rintro D2 ys W hD2 rfl ⟨⟨cn, fn⟩, ⟨hkv, hle⟩, ht⟩ hK2
    have hkb : ∀ b, b < w2.heap.size + 1 → W.heap[b]? = w5.heap[b]? := fun b hb => ht.block b (by have := HSZ.out; omega) (HLOW.out b hb)
    have c1 : W.cell? ⟨w2.heap.size, 0, none⟩ = some (.slice a2 ys.length cap2) := by rw [cell_of ((hkb _ (by omega)).trans HC1.out)]; rfl
    have hR := (hkb w.heap.size (by have := HSZ.out; omega)).trans HCR.out
    have HRR := Lib.hid hR
    have HK2 := Lib.hid hK2
    have BW : Hid (Below w.heap.size w W) := Lib.hid (BW5.out.trans (ht.to_below BW5.out.size (fun k hk => by
      rcases Nat.lt_or_ge k w.heap.size with h | h
      · exact absurd hk (HLOW.out k (by have := HSZ.out; omega))
      · exact h)))
    have HIW : Hid (Items W1.heap.size W (.slice a2 ys.length cap2) ys) := Lib.hid (ownsRow_frame I5.out (w' := W) fun b hb => hkb b (by have := ownsRow_lt I2.out hb; omega))
    have HXW : Hid (W.heap[w2.heap.size]? = some (.cells #[.slice a2 ys.length cap2] 31 (0, 0))) := Lib.hid ((hkb _ (by omega)).trans HC1.out)
    have HDS : Hid (w5.heap.size ≤ D2) := Lib.hid hD2
    have hfi : (ys.length : Int) ≤ 100000 := by have := HFEW.out; omega
    clear hkv hle ht hkb hR hK2 hD2
    have HXX : Hid (∀ W', Below W.heap.size W W' → W'.cell? ⟨w2.heap.size, 0, none⟩ = some (.slice a2 ys.length cap2) ∧ W'.cell? ⟨w.heap.size, 0, none⟩ = some (.bool false) ∧ W'.frozen? ⟨w.heap.size, 0, none⟩ = false ∧ W'.heap[D2]? = some (.deferred (some [])) ∧ Items W1.heap.size W' (.slice a2 ys.length cap2) ys ∧ Lst W' q ys r ∧ Items b0 W' (.slice ao r.length cap) r ∧ Below w.heap.size w W') := Lib.hid fun W' hb =>
      have h1 := (hb.block _ (heap_lt HXW.out)).trans HXW.out
      have h2 := (hb.block _ (heap_lt HRR.out)).trans HRR.out
      have h3 := Below.next BW.out hb
      ⟨by rw [cell_of h1]; rfl, by rw [cell_of h2]; rfl, unfrozen_of h2 0, (hb.block _ (heap_lt HK2.out)).trans HK2.out, HIW.out.below hb, HL.out.below h3, HI.out.below h3, h3⟩
    have HT := Lib.hid (lTowers (HXX.out W (Below.refl _ _)).2.2.2.2.2.1)
    have HN := Lib.hid cn
    have HNL : Hid (w2.heap.size + 1 < W.heap.size) := Lib.hid (World.block_lt_of_cell? W _ cn)
    clear cn fn c1
    go_wp2_with fail
    refine HT.out.mono ?_
    rintro e w6 ⟨v, rfl, ht, hb6⟩
    have n6 : w6.cell? ⟨w2.heap.size + 1, 0, none⟩ = some (.int .i64 (ys.length : Int)) := (hb6.cell (p := ⟨w2.heap.size + 1, 0, none⟩) HNL.out).trans HN.out
    obtain ⟨at6, ct6, et6⟩ := row_any ht
    subst et6
    have HTT := Lib.hid ht
    have B6 := Lib.hid hb6
    have c6 := (HXX.out w6 hb6).1
    clear ht hb6
    go_wp2_with fail
    go_loopw [10] (fun i wr => ∃ (k : Nat), k ≤ ys.length ∧ i = .int .i64 (k : Int) ∧ Hid (Below W.heap.size W wr ∧ wr.ownsRow W.heap.size 3 1 (.slice at6 ys.length ct6) ys.length (hgtCells ys))) (fun i _ => ys.length - (intOf i).toNat)
    case atStart => exact ⟨0, Nat.zero_le _, rfl, Lib.hid ⟨B6.out, HTT.out⟩⟩
    case round =>
      obtain ⟨k, hk, rfl, HD⟩ := hrel
      have hbd := HD.out.1
      obtain ⟨c7, r7, f7, _, hi7, _, _, _⟩ := HXX.out _ hbd
      have HBD := Lib.hid hbd
      clear hbd
      by_cases hkr : k < ys.length
      · obtain ⟨y, hy⟩ : ∃ y, ys[k]? = some y := ⟨ys[k], List.getElem?_eq_getElem _⟩
        have hki : (k : Int) < ys.length := by omega
        obtain ⟨g, rfl, _, _, _, d2⟩ := hi7.get hy
        have ht7 := HD.out.2
        obtain ⟨gt, rfl, _, _, dt⟩ := (row_here ht7).2 k (.int .i64 (y.h : Int)) (by unfold hgtCells; rw [List.getElem?_map, hy]; rfl)
        clear hi7 hy ht7 r7 f7
        go_wp2_with fail
        go_quiet (fail)
        go_wp2_with fail
        go_roundw
        case rel => exact ⟨k + 1, by omega, by go_num, Lib.hid ⟨below_drewN HBD.out _, ownsRow_frame HD.out.2 fun _ _ => by first | rfl | simp⟩⟩
        case measure => simp [intOf]; omega
      · obtain rfl : k = ys.length := by omega
        clear hi7 c7 r7 f7
        go_wp2_with fail
        go_loopw [11] (fun i wr => ∃ (lev : Int), -1 ≤ lev ∧ lev ≤ 13 ∧ i = .int .i64 lev ∧ Hid (Below W.heap.size W wr)) (fun i _ => (13 - intOf i).toNat)
        case atStart => exact ⟨-1, by omega, by omega, rfl, HBD⟩
        case round =>
          obtain ⟨lev, hl1, hl2, rfl, HB⟩ := hrel
          obtain ⟨c9, r9, f9, k9, _, l9, i9, b9⟩ := HXX.out _ HB.out
          have HK9 := Lib.hid k9
          have HL9 := Lib.hid l9
          have HI9 := Lib.hid i9
          have HB9 := Lib.hid b9
          clear k9 l9 i9 b9
          by_cases hl : lev ≤ 12
          · have HG := Lib.hid (lRow HL9.out lev)
            clear r9 f9
            go_wp2_with fail
            refine HG.out.mono ?_
            rintro e w9 ⟨v, rfl, hv, hb⟩
            obtain ⟨a1, cap1, e1⟩ := row_any hv
            subst e1
            have HC := Lib.hid (lawRow_any lev hv hb.size (HI9.out.below hb) HL9.out.kin HL9.out.small HL9.out.few HL9.out.hgt)
            have HB10 := Lib.hid (Below.next HB.out hb)
            have HSB : Hid (W.heap.size ≤ wr.heap.size) := Lib.hid HB.out.size
            clear hv hb
            go_wp2_with fail
            refine HC.out.mono ?_
            rintro e w10 ⟨rfl, hb10⟩
            have HB11 := Lib.hid (HB10.out.trans (hb10.mono HSB.out))
            clear hb10
            go_wp2_with fail
            go_roundw
            case rel => exact ⟨lev + 1, by omega, by omega, by go_num, HB11⟩
            case measure => simp [intOf]; omega
          · obtain rfl : lev = 13 := by omega
            go_wp2_with fail
            have hk2 : (wr.setCell ⟨w.heap.size, 0, none⟩ (.bool true)).heap[D2]? = some (.deferred (some [])) := (setCell_kept _ _ _ (by have := HDS.out; have := HSZ.out; show D2 ≠ w.heap.size; omega)).trans HK9.out
            have hc7 := World.cell?_setCell_same' wr ⟨w.heap.size, 0, none⟩ (.bool true) (by rw [r9]; rfl)
            have hb7 := HB9.out.setCell (p := ⟨w.heap.size, 0, none⟩) (Nat.le_refl _) (.bool true)
            generalize wr.setCell ⟨w.heap.size, 0, none⟩ (.bool true) = w10 at *
            have g2 := grownBy_putObj' w10 D2 (.deferred none)
            have hc8 := cell_kept hc7 g2 (fun r e => by cases e; exact ⟨_, hk2, rfl⟩)
            refine ⟨by simp, .inl ⟨_, _, rfl, run_takeDeferred hk2, ?_⟩⟩
            refine ⟨.bool true, ?_, rfl, hb7.trans (belowK_b (w := w) (Nat.le_refl _) w10 D2 _ _ (by have := HDS.out; have := HSZ.out; omega) hk2 rfl rfl)⟩
            simp [results, Try.results16, go_sem, hc8]

end Go.Proofs.Ytghfgffgcknbmaa.Sk
