/- Walks of the document's own answers for layer 2: first, Parts. -/
import Derived.Test.YtognddehcfjiaaaOkeyRefA
namespace Go.Proofs.Ytognddehcfjiaaa
open Go.RowKit
set_option linter.unusedVariables false

/-- What first answers. -/
def rfT (t : Bool) (s : ByteArray) (n : Nat) (k : Int) : Value := .tuple #[partV t s n, .int .i64 k]

set_option maxHeartbeats 1000000 in
theorem refFirst_num_no (s : ByteArray) (n k : Nat) (w : World) (hs : s.size ≤ 1099511627776) (h1 : 1 ≤ s.size)
    (hx : ∀ w : World, (Instr.index 9 (.string s) (.int .i64 0)).run Try.prog w = .ok (.int .u8 1) w)
    (hv : rvV (s.data.toList.drop 1) = .tuple #[.int .u64 n, .int .i64 k, .bool false]) :
    Calls Try.prog 30 #[.string s] w (Gives (rfT false ⟨#[]⟩ 0 0) w) := by
  have HV := Lib.hid hv; have HS := Lib.hid hs; clear hv
  go_enter Try.func30, Try.ntmps30
  go_wp2_with fail
  refine (refReadVar_any _ _ (by have := HS.out; have := extract_size s h1; omega)).mono ?_
  rintro e w1 ⟨rfl, hb⟩
  rw [Lib.extract_to_end, HV.out]
  obtain ⟨hc, hf⟩ := bcell hb
  have hz : w.heap.size < w1.heap.size := by have := hb.size; simp at this; omega
  go_wp2_with fail
  refine bodyPost_ret (v := rfT false ⟨#[]⟩ 0 0) (by simp [results, Try.results30, go_sem, partV, rfT, hc]) rfl ⟨rfl, ?_⟩
  exact ((((((Below.refl _ _).alloc (Nat.le_refl _) _).trans (hb.mono (by simp))).setCell (Nat.le_refl _) _).setCell (Nat.le_refl _) _).setCell (Nat.le_refl _) _)

set_option maxHeartbeats 1000000 in
theorem refFirst_num_yes (s : ByteArray) (n k : Nat) (w : World) (hs : s.size ≤ 1099511627776) (h1 : 1 ≤ s.size) (hk : (k : Int) ≤ 1099511627776)
    (hx : ∀ w : World, (Instr.index 9 (.string s) (.int .i64 0)).run Try.prog w = .ok (.int .u8 1) w)
    (hv : rvV (s.data.toList.drop 1) = .tuple #[.int .u64 n, .int .i64 k, .bool true]) :
    Calls Try.prog 30 #[.string s] w (Gives (rfT false ⟨#[]⟩ n (1 + (k : Int))) w) := by
  have HV := Lib.hid hv; have HS := Lib.hid hs; clear hv
  go_enter Try.func30, Try.ntmps30
  go_wp2_with fail
  refine (refReadVar_any _ _ (by have := HS.out; have := extract_size s h1; omega)).mono ?_
  rintro e w1 ⟨rfl, hb⟩
  rw [Lib.extract_to_end, HV.out]
  obtain ⟨hc, hf⟩ := bcell hb
  have hz : w.heap.size < w1.heap.size := by have := hb.size; simp at this; omega
  go_wp2_with fail
  refine bodyPost_ret (v := rfT false ⟨#[]⟩ n (1 + (k : Int))) (by simp [results, Try.results30, go_sem, partV, rfT, hc]) rfl ⟨rfl, ?_⟩
  exact ((((((Below.refl _ _).alloc (Nat.le_refl _) _).trans (hb.mono (by simp))).setCell (Nat.le_refl _) _).setCell (Nat.le_refl _) _).setCell (Nat.le_refl _) _)

set_option maxHeartbeats 1000000 in
theorem refFirst_bad (s : ByteArray) (c : Int) (w : World) (hn1 : c ≠ 1) (hn2 : c ≠ 2)
    (hx : ∀ w : World, (Instr.index 9 (.string s) (.int .i64 0)).run Try.prog w = .ok (.int .u8 c) w) :
    Calls Try.prog 30 #[.string s] w (Gives (rfT false ⟨#[]⟩ 0 0) w) := by
  have hn1' : (c == 1) = false := by rw [beq_eq_false_iff_ne]; exact hn1
  have hn2' : (c != 2) = true := by rw [bne_iff_ne]; exact hn2
  clear hn1 hn2
  go_enter Try.func30, Try.ntmps30
  go_wp2_with fail
  refine bodyPost_ret (v := rfT false ⟨#[]⟩ 0 0) (by simp [results, Try.results30, go_sem, partV, rfT]) rfl ⟨rfl, ?_⟩
  exact (Below.refl _ _).alloc (Nat.le_refl _) _

/-- What first answers of a text. -/
def rftV : Option (List UInt8 × Nat) → Value
  | none => rfT false ⟨#[]⟩ 0 0
  | some x => rfT true ⟨x.1.toArray⟩ 0 (1 + (x.2 : Nat))

set_option maxHeartbeats 3000000 in
theorem refFirst_text (s : ByteArray) (w : World) (hs : s.size ≤ 1000000000) (h1 : 1 ≤ s.size)
    (hx0 : ∀ w : World, (Instr.index 9 (.string s) (.int .i64 0)).run Try.prog w = .ok (.int .u8 2) w) :
    Calls Try.prog 30 #[.string s] w (Gives (rftV (rtx (s.data.toList.drop 1))) w) := by
  generalize hR0 : rtx (s.data.toList.drop 1) = R
  have H0 : Hid (R = ahead [] 0 (rtx (s.data.toList.drop (0 + 1)))) := by rw [ahead_zero']; exact hR0.symm
  clear hR0
  go_enter Try.func30, Try.ntmps30
  go_wp2_with fail
  clear hx0
  go_loop [7, 8] (fun u i => ∃ (k : Nat) (L : List UInt8) (S : ByteArray), k + 1 ≤ s.size ∧ S.data.toList = L ∧ L.length ≤ k ∧ i = .int .i64 ((k : Int) + 1) ∧ u = .string S ∧ R = ahead L k (rtx (s.data.toList.drop (k + 1)))) (fun _ i => s.size + 1 - (intOf i).toNat)
  case atStart => exact ⟨0, [], _, h1, rfl, Nat.le_refl _, rfl, rfl, H0.out⟩
  case round =>
    obtain ⟨k, L, S, hk, hSL, hLk, rfl, rfl, hR⟩ := hrel
    have HR := Lib.hid hR; clear hR H0
    have hSs : S.size ≤ 1000000000 := by rw [← length_list, hSL]; omega
    have HSL := Lib.hid hSL; have HLK := Lib.hid hLk; clear hSL hLk
    by_cases hlt : k + 1 < s.size
    · have hlt' : (k : Int) + 1 < s.size := by omega
      have hx := index_byte s (k + 1) hlt
      have ek : ((k + 1 : Nat) : Int) = (k : Int) + 1 := by omega
      rw [ek] at hx
      clear ek
      have HD := Lib.hid (drop_cons s (k + 1) hlt)
      have HO := Lib.hid (extract_one s (k + 1) hlt)
      generalize s[k + 1]'hlt = B at *
      obtain ⟨c, hc⟩ : ∃ c : Int, c = B.toNat := ⟨_, rfl⟩
      rw [← hc] at hx
      have HC := Lib.hid hc; clear hc
      by_cases hz : c = 0
      · obtain rfl : B = 0 := byte_eq 0 HC.out (by rw [hz]; rfl)
        subst hz
        clear HC
        by_cases hlt2 : k + 2 < s.size
        · have he : (k : Int) + 1 + 1 < (s.size : Int) := by omega
          have hx2 := index_byte s (k + 2) hlt2
          have HD2 := Lib.hid (drop_cons s (k + 2) hlt2)
          generalize s[k + 2]'hlt2 = B2 at *
          obtain ⟨c2, hc2⟩ : ∃ c : Int, c = B2.toNat := ⟨_, rfl⟩
          rw [← hc2] at hx2
          have ek : ((k + 2 : Nat) : Int) = (k : Int) + 1 + 1 := by omega
          rw [ek] at hx2
          clear ek
          have HC2 := Lib.hid hc2; clear hc2
          have HQ : Hid (R = ahead L k (rtx (0 :: B2 :: s.data.toList.drop (k + 2 + 1)))) := by rw [HR.out, HD.out, HD2.out]; exact rfl
          clear HR HD HD2 HO
          by_cases h1 : c2 = 1
          · obtain rfl : B2 = 1 := byte_eq 1 HC2.out (by rw [h1]; rfl)
            subst h1
            have HE : Hid (rftV R = rfT true S 0 ((k : Int) + 1 + 2)) := by
              rw [HQ.out, ahead_end]
              exact Lib.hid (by
                unfold rftV
                simp only
                have e1 : (⟨L.toArray⟩ : ByteArray) = S := by rw [← HSL.out]
                have e2 : 1 + ((k + 2 : Nat) : Int) = (k : Int) + 1 + 2 := by omega
                rw [e1, e2])
            go_wp2_with fail
            rw [HE.out]
            refine bodyPost_ret (v := rfT true S 0 ((k : Int) + 1 + 2)) (by simp [results, Try.results30, go_sem, partV, rfT]) rfl ⟨rfl, ?_⟩
            exact (Below.refl _ _).alloc (Nat.le_refl _) _
          · have h1' : (c2 == 1) = false := by rw [beq_eq_false_iff_ne]; exact h1
            by_cases h2 : c2 = 255
            · obtain rfl : B2 = 255 := byte_eq 255 HC2.out (by rw [h2]; rfl)
              subst h2
              have hadd : ¬ 9223372036854775807 < S.size + 1 := by omega
              clear h1 h1'
              go_wp2_with fail
              go_round
              case rel => exact ⟨k + 2, L ++ [0], _, by omega, by rw [app_data, HSL.out], by have := HLK.out; rw [List.length_append, List.length_singleton]; omega, by go_num, rfl, by rw [HQ.out, ahead_zero]⟩
              case measure => simp [intOf]; omega
            · have h2' : (c2 != 255) = true := by rw [bne_iff_ne]; exact h2
              have HE : Hid (R = none) := by rw [HQ.out]; exact ahead_bad L k B2 _ (byte_ne 1 HC2.out h1) (byte_ne 255 HC2.out h2)
              clear h1 h2
              go_wp2_with fail
              rw [HE.out]
              refine bodyPost_ret (v := rfT false ⟨#[]⟩ 0 0) (by simp [results, Try.results30, go_sem, partV, rfT]) rfl ⟨rfl, ?_⟩
              exact (Below.refl _ _).alloc (Nat.le_refl _) _
        · have he : ¬ (k : Int) + 1 + 1 < (s.size : Int) := by omega
          have HE : Hid (R = none) := by
            rw [HR.out, HD.out, List.drop_of_length_le (by rw [length_list]; omega)]
            exact ahead_cut L k
          go_wp2_with fail
          rw [HE.out]
          refine bodyPost_ret (v := rfT false ⟨#[]⟩ 0 0) (by simp [results, Try.results30, go_sem, partV, rfT]) rfl ⟨rfl, ?_⟩
          exact (Below.refl _ _).alloc (Nat.le_refl _) _
      · have HB : Hid (B ≠ 0) := byte_ne 0 HC.out hz
        have hz' : (c != 0) = true := by rw [bne_iff_ne]; exact hz
        have hsz : (s.extract (k + 1) (k + 2)).size = 1 := by rw [ByteArray.size_extract]; omega
        have hkk : (k : Int) + 1 ≤ (k : Int) + 1 + 1 := by omega
        have hk1 : (k : Int) + 1 + 1 ≤ s.size := by omega
        have hen : ((k : Int) + 1 + 1).toNat = k + 2 := by omega
        have hadd : ¬ 9223372036854775807 < S.size + (s.extract (k + 1) (k + 2)).size := by omega
        clear hz
        go_wp2_with fail
        go_round
        case rel => exact ⟨k + 1, L ++ [B], _, by omega, by rw [app_data, HSL.out]; exact congrArg (L ++ ·) HO.out, by have := HLK.out; rw [List.length_append, List.length_singleton]; omega, by go_num, rfl, by rw [HR.out, HD.out, ahead_char _ _ _ _ HB.out]⟩
        case measure => simp [intOf]; omega
    · have hlt' : ¬ (k : Int) + 1 < s.size := by omega
      have HE : Hid (R = none) := by
        rw [HR.out, List.drop_of_length_le (by rw [length_list]; omega)]
        exact ahead_nil L k
      go_wp2_with fail
      rw [HE.out]
      refine bodyPost_ret (v := rfT false ⟨#[]⟩ 0 0) (by simp [results, Try.results30, go_sem, partV, rfT]) rfl ⟨rfl, ?_⟩
      exact (Below.refl _ _).alloc (Nat.le_refl _) _

/-- A part was read, or none. -/
def FirstRead (o : Option (Pt × Nat)) (w : World) (e : Ending) (w' : World) : Prop :=
  ((o = none ∧ ∃ t s n, e = .returned (rfT t s n 0)) ∨ ∃ p k, o = some (p, k) ∧ e = .returned (rfT p.t p.s p.n (k : Nat))) ∧ Below w.heap.size w w'

theorem refFirst_any (s : ByteArray) (w : World) (hs : s.size ≤ 1000000000) (h1 : 1 ≤ s.size) :
    Calls Try.prog 30 #[.string s] w (FirstRead (rp s.data.toList) w) := by
  have hx := index_byte s 0 h1
  have hd : s.data.toList = s[0] :: s.data.toList.drop 1 := drop_cons s 0 h1
  have hlen : (s.data.toList.drop 1).length ≤ 1000000000000 := by rw [List.length_drop, length_list]; omega
  rw [hd]
  generalize s[0] = b at *
  have hlt := b.toNat_lt
  by_cases hb1 : b = 1
  · subst hb1
    rw [rp_one]
    cases hv : Nm.rv (s.data.toList.drop 1) with
    | none =>
      refine (refFirst_num_no s 0 0 w (by omega) h1 hx (rvV_none hv)).mono ?_
      rintro e w' ⟨rfl, hb⟩
      exact ⟨Or.inl ⟨rfl, _, _, _, rfl⟩, hb⟩
    | some x =>
      obtain ⟨n, k⟩ := x
      have hk := Nm.row_rv hv
      refine (refFirst_num_yes s n k w (by omega) h1 (by omega) hx (rvV_some hv)).mono ?_
      rintro e w' ⟨rfl, hb⟩
      exact ⟨Or.inr ⟨_, _, rfl, by simp⟩, hb⟩
  · by_cases hb2 : b = 2
    · subst hb2
      rw [rp_two]
      refine (refFirst_text s w hs h1 hx).mono ?_
      rintro e w' ⟨rfl, hb⟩
      cases hv : rtx (s.data.toList.drop 1) with
      | none => exact ⟨Or.inl ⟨rfl, _, _, _, rfl⟩, hb⟩
      | some x => exact ⟨Or.inr ⟨_, _, rfl, by unfold rftV; simp⟩, hb⟩
    · have n1 : (b.toNat : Int) ≠ 1 := fun e => hb1 (UInt8.toNat.inj (by show b.toNat = 1; omega))
      have n2 : (b.toNat : Int) ≠ 2 := fun e => hb2 (UInt8.toNat.inj (by show b.toNat = 2; omega))
      refine (refFirst_bad s _ w n1 n2 hx).mono ?_
      rintro e w' ⟨rfl, hb⟩
      rw [rp_bad _ _ hb1 hb2]
      exact ⟨Or.inl ⟨rfl, _, _, _, rfl⟩, hb⟩

theorem info_refPart : (Try.prog.info? 41).map (fun i => (i.zero, i.size, i.bytes)) = some (some (.agg #[.bool false, .string ⟨#[]⟩, .int .u64 0]), 3, 32) := by kernel_rfl

/-- Parts of the call's own lie in memory, whatever their type's name. -/
theorem sees_of_owns {w : World} {base : Nat} {t : TypeId} {v : Value} {ps : List Pt} (h : w.ownsRow base t 3 v ps.length (ps.flatMap cellsP)) : SeesP w v ps ∧ ∃ ao cap, v = .slice ao ps.length cap := by
  have hl := h.1
  rcases h.2 with ⟨rfl, h0⟩ | ⟨g, cap, cur, rfl, hb, hg, hnc, hcm, hcs, htake⟩
  · exact ⟨Or.inl ⟨List.eq_nil_of_length_eq_zero h0, none, 0, rfl⟩, none, 0, by rw [h0]⟩
  · have hcell := h.cells (g := g) rfl
    refine ⟨Or.inr ⟨g, 0, cap, rfl, ?_, fun i hi => ?_⟩, _, _, rfl⟩
    · rcases Nat.lt_or_ge g w.heap.size with hlt | hge
      · exact hlt
      · rw [Array.getElem?_eq_none hge] at hg; cases hg
    · obtain ⟨h0, h1, h2⟩ := cellsP_at ps i hi
      have e : ∀ j, (⟨g, 0, none⟩ : Addr).add j = ⟨g, j, none⟩ := fun j => by unfold Addr.add; split <;> simp_all
      have c0 := hcell _ _ h0
      have c1 := hcell _ _ h1
      have c2 := hcell _ _ h2
      rw [e] at c0 c1 c2
      exact ⟨by rw [Nat.zero_add]; exact c0, by rw [Nat.zero_add]; exact c1, by rw [Nat.zero_add]; exact c2⟩

/-- The document's parts were read, or none. -/
def RefRead (o : Option (List Pt)) (w : World) (e : Ending) (w' : World) : Prop :=
  Below w.heap.size w w' ∧ ((o = none ∧ e = .returned (.tuple #[.slice none 0 0, .bool false])) ∨ ∃ ps ao n cap, o = some ps ∧ e = .returned (.tuple #[.slice ao n cap, .bool true]) ∧ SeesP w' (.slice ao n cap) ps)

set_option maxHeartbeats 2000000 in
theorem refParts_any (s : ByteArray) (w : World) (hs : s.size ≤ 1000000000) :
    Calls Try.prog 18 #[.string s] w (RefRead (prl s.data.toList) w) := by
  obtain ⟨i0, hi, hz0, hz1, hz2⟩ := info_parts info_refPart
  have HS := Lib.hid hs; clear hs
  generalize hR : prl s.data.toList = R
  have H0 : Hid (R = (prl s.data.toList).map ([] ++ ·)) := by rw [hR]; exact Lib.hid (by simp)
  clear hR
  go_enter Try.func18, Try.ntmps18
  go_wp2_with fail
  go_loopw [0, 4] (fun x u wr => ∃ (S : ByteArray) (ps : List Pt), x = .string S ∧ ps.length + S.size ≤ s.size ∧ R = (prl S.data.toList).map (ps ++ ·) ∧ wr.ownsRow w.heap.size 41 3 u ps.length (ps.flatMap cellsP) ∧ Below w.heap.size w wr) (fun x _ _ => match x with | .string S => S.size | _ => 0)
  case atStart => exact ⟨s, [], rfl, by simp, H0.out, World.ownsRow_nil .., Below.refl _ _⟩
  case round =>
    obtain ⟨S, ps, rfl, hlen, hR, hown, hbel⟩ := hrel
    have HR := Lib.hid hR; clear hR H0
    have hsz := hbel.size
    have HLEN := Lib.hid hlen; clear hlen
    by_cases h0 : S.size = 0
    · have HE : Hid (R = some ps) := by
        rw [HR.out, empty_of_size h0]
        exact Lib.hid (by show Option.map (ps ++ ·) (some []) = _; simp)
      have h0' : ¬ (0 : Int) < S.size := by omega
      obtain ⟨hs', ao, cap, rfl⟩ := sees_of_owns hown
      clear h0 hown
      generalize hpl : ps.length = n at *
      clear hpl
      go_wp2_with fail
      go_ret2
      exact ⟨hbel, Or.inr ⟨_, _, _, _, HE.out, rfl, hs'⟩⟩
    · have h1 : 1 ≤ S.size := by omega
      have h1' : (0 : Int) < S.size := by omega
      clear h0
      have HNE : Hid (S.data.toList ≠ []) := fun e => by have := length_list S; rw [e] at this; simp at this; omega
      go_wp2_with fail
      refine (refFirst_any S _ (by have := HS.out; have := HLEN.out; omega) h1).mono ?_
      rintro e w1 ⟨hp, hb1⟩
      rcases hp with ⟨hrp, t, x, n, rfl⟩ | ⟨p, j, hrp, rfl⟩
      · have HE : Hid (R = none) := by rw [HR.out, prl_none HNE.out hrp]; exact rfl
        unfold rfT partV
        clear hrp
        go_wp2_with fail
        go_ret2
        exact ⟨Below.alloc (hbel.trans (hb1.mono hsz)) (by have := hb1.size; omega) _, Or.inl ⟨HE.out, rfl⟩⟩
      · have hj := rp_le hrp
        have HE : Hid (R = (prl (S.data.toList.drop j)).map ((ps ++ [p]) ++ ·)) := by
          rw [HR.out, prl_some hrp, Option.map_map]
          exact Lib.hid (by congr 1; funext z; simp)
        unfold rfT partV
        rw [length_list] at hj
        clear hrp
        obtain ⟨hj1, hj2, hj3⟩ := hj
        have hj1' : (1 : Int) ≤ j := by omega
        have hj0 : ((j : Int) == 0) = false := by rw [beq_eq_false_iff_ne]; omega
        have hj2' : (j : Int) ≤ S.size := by omega
        have hb2 := hbel.trans (hb1.mono hsz)
        have hsz1 := hb2.size
        have hraw : w1.ownsRow w.heap.size 41 3 u4 ps.length (ps.flatMap cellsP) := ownsRow_below hown hb1
        clear hown hbel hb1
        have HPL : Hid (ps.length ≤ 1000000000) := by have := HLEN.out; have := HS.out; exact Lib.hid (by omega)
        go_wp2_with (at_builtin; go_must (refine wpList_append_own _ rfl _ _ 36 rfl w.heap.size 41 i0 _ 3 32 Try.underlying36 hi hz0 hz1 hz2 rfl (by decide) _ _ _ rfl ((hraw.alloc _).alloc _) ⟨w1.heap.size + 1, 0, none⟩ 1 1 [_, _, _] rfl rfl (World.news_of_block (cs := #[_, _, _]) (fr := (0, 0)) (heap_new2 w1 _ _)) ?c2 ?c3 ?c4 ?c5 ?_))
        case c2 => intro u hu; simp at hu; rcases hu with hu | hu | hu <;> subst hu <;> rfl
        case c3 => have := HPL.out; unfold maxLen; omega
        case c4 => have := HPL.out; omega
        case c5 => simp; omega
        intro v2 w2 hown2 hgrow2 _
        have R1 : w2.ownsRow w.heap.size 41 3 v2 (ps ++ [p]).length ((ps ++ [p]).flatMap cellsP) ∧ Below w.heap.size w w2 := by
          refine ⟨?_, ((hb2.alloc hsz1 _).alloc (by simp; omega) _).grown hgrow2 (by simp; omega) (fun q hq => (hraw.lt q hq).1)⟩
          rw [List.length_append, List.flatMap_append, List.flatMap_singleton]
          exact hown2
        clear hown2 hgrow2 hraw
        go_wp2_with fail
        go_roundw
        case rel => exact ⟨_, ps ++ [p], rfl, by have := HLEN.out; rw [List.length_append, List.length_singleton, ByteArray.size_extract]; omega, by rw [HE.out, Lib.extract_to_end], R1.1, R1.2⟩
        case measure => simp only [ByteArray.size_extract]; omega

end Go.Proofs.Ytognddehcfjiaaa
