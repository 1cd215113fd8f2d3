/- The walk of BlockOnly. -/
import Derived.Test.YtjpmcphfiiiecaaBoK
namespace Go.Proofs.Ytjpmcphfiiiecaa.Bo
open Go Go.RowKit
set_option linter.unusedVariables false

theorem good_sizes : ∀ (l : List En) (s : St), goodb s l = true → ∀ e ∈ l, e.key.size ≤ 1024 ∧ e.val.size ≤ 1024
  | [], _, _ => fun e he => (by cases he)
  | a :: l, s, h => by
    rw [goodb, Bool.and_eq_true, decide_eq_true_eq] at h
    intro e he
    rcases List.mem_cons.1 he with rfl | hm
    · exact err_size h.1
    · exact good_sizes l _ h.2 e hm
/-- What stands ahead of an entry is good, and so is it. -/
theorem good_step (l : List En) (k : Nat) (e : En) (hk : l[k]? = some e) (h : goodb st0 l = true) : goodb st0 (l.take k) = true ∧ err (run st0 (l.take k)) e = 0 := by
  have h1 : l = l.take k ++ (e :: l.drop (k + 1)) := by
    obtain ⟨hlt, hke⟩ := List.getElem?_eq_some_iff.1 hk
    rw [← hke, ← List.drop_eq_getElem_cons hlt, List.take_append_drop]
  rw [h1, good_append, goodb, Bool.and_eq_true, Bool.and_eq_true, decide_eq_true_eq] at h
  exact ⟨h.1, h.2.1⟩

set_option maxHeartbeats 4000000 in
set_option maxRecDepth 100000 in
theorem only_short (T : ByteArray) (w : World) (hs : ¬ (8000 : Int) < T.size) :
    Calls Try.prog 7 #[.string T] w (Gives (.bool true) w) := by
  have HOP := Lib.hid (open_any T w (by omega))
  cases ho : opn T.data.toList with
  | none =>
    rw [ho] at HOP
    go_enter Try.func7, Try.ntmps7
    go_wp2_with fail
    refine HOP.out.mono ?_
    rintro e w1 ⟨hb1, he⟩
    dsimp only at he
    subst he
    have HB1 := Lib.hid hb1; clear hb1
    go_wp2_with fail
    refine (awake_any _).mono ?_
    rintro e w2 ⟨rfl, hb2⟩
    go_wp2_with fail
    go_ret
    exact ⟨rfl, HB1.out.trans (hb2.mono HB1.out.size)⟩
  | some l =>
    rw [ho] at HOP
    obtain ⟨hgood, hbytes⟩ := opn_some ho
    have hll : l.length ≤ 8000 := by
      have h1 := fin_length (run st0 l)
      have h2 := run_rows l st0
      have h3 := rows_least l st0
      rw [show st0.rows = [] from rfl, List.nil_append] at h2
      rw [h2] at h1
      have h4 : (fin (run st0 l)).length = T.size := by rw [← len, ← hbytes]; rfl
      omega
    have HGOOD := Lib.hid hgood
    have HFT : Hid ((⟨(fin (run st0 l)).toArray⟩ : ByteArray) = T) := Lib.hid (by
      show (⟨(bytes l).toArray⟩ : ByteArray) = T
      rw [hbytes])
    have HFL : Hid ((fin (run st0 l)).length = T.size) := Lib.hid (by rw [← len, ← hbytes]; rfl)
    clear ho hgood hbytes
    go_enter Try.func7, Try.ntmps7
    go_wp2_with fail
    refine HOP.out.mono ?_
    rintro e w2 ⟨hb2, p, v, rs, rfl, hblk, hrs, -⟩
    have HB2 := Lib.hid hb2; have HBK := Lib.hid hblk; have HRS := Lib.hid hrs
    have HRL : Hid (rs.length = l.length) := Lib.hid (by rw [← hrs, List.length_map])
    have HVS : Hid (∀ x ∈ rs, x.2.val.size ≤ 1000000000) := Lib.hid (fun x hx => by
      have h1 : x.2 ∈ l := by rw [← hrs]; exact List.mem_map_of_mem (f := Prod.snd) hx
      have := (good_sizes l st0 HGOOD.out x.2 h1).2
      omega)
    have HNB := Lib.hid (new_built w2)
    clear hb2 hblk hrs HOP
    go_wp2_with fail
    go_loopw [6] (fun i wr => ∃ (k : Nat), k ≤ l.length ∧ i = .int .i64 k ∧ Hid (∃ L, L.b = w2.heap.size ∧ Built wr w2.heap.size L (run st0 (l.take k)) ∧ Below w2.heap.size w2 wr)) (fun i _ => l.length - (intOf i).toNat)
    case atStart => exact ⟨0, Nat.zero_le _, rfl, Lib.hid ⟨_, rfl, HNB.out, (Below.refl _ _).alloc (Nat.le_refl _) _⟩⟩
    case round =>
      obtain ⟨k, hk, rfl, HI⟩ := hrel
      obtain ⟨L, hLb, hbt, hbel⟩ := HI.out
      have HBKr := Lib.hid (HBK.out.below hbel)
      have HLN := Lib.hid (len_any HBKr.out)
      rw [HRL.out] at HLN
      have HBT := Lib.hid hbt; have HBEL := Lib.hid hbel
      clear HI hbt hbel
      by_cases hlt : k < l.length
      · obtain ⟨en, hen⟩ : ∃ x, l[k]? = some x := ⟨_, List.getElem?_eq_getElem hlt⟩
        have hkn : (k : Int) < l.length := by omega
        have HAT := Lib.hid (at_any HBKr.out (k : Int) HVS.out)
        have hatv : atV (rs.map Prod.snd) (k : Int) = .tuple #[.string en.key, .string en.val, .bool true] := by
          unfold atV
          rw [if_neg (by omega), Int.toNat_natCast, HRS.out, hen]
        rw [hatv] at HAT
        obtain ⟨hg1, hg2⟩ := good_step l k en hen HGOOD.out
        have HTK : Hid (run st0 (l.take (k + 1)) = step (run st0 (l.take k)) en) := Lib.hid (by
          obtain ⟨h1, h2⟩ := List.getElem?_eq_some_iff.1 hen
          rw [List.take_succ_eq_append_getElem h1, h2, run_snoc])
        have HSO := Lib.hid (sound_run _ _ sound0 hg1)
        have HNN : Hid ((run st0 (l.take k)).n ≤ 2000000) := Lib.hid (by rw [run_n, List.length_take]; show 0 + _ ≤ _; omega)
        have HE := Lib.hid hg2
        obtain ⟨key, val⟩ := en
        dsimp only at HAT
        clear hatv hg1 hg2 hen
        go_wp2_with fail
        refine HLN.out.mono ?_
        rintro e w3 ⟨rfl, rfl⟩
        go_wp2_with fail
        refine HAT.out.mono ?_
        rintro e w4 ⟨rfl, hb4⟩
        have HBT4 := Lib.hid (HBT.out.below hb4)
        have HBEL4 := Lib.hid (HBEL.out.trans (hb4.mono HBEL.out.size))
        have HADD := Lib.hid (add_any HBT4.out HSO.out HNN.out key val)
        rw [HE.out, hLb] at HADD
        clear hb4 HAT HLN HBT HBEL HBKr
        go_wp2_with fail
        refine HADD.out.mono ?_
        rintro e w5 ⟨rfl, hg5⟩
        have HBEL5 := Lib.hid (HBEL4.out.trans (GoesB.to_below HBT4.out hg5))
        obtain ⟨L5, hL5, hb5, -, -⟩ := hg5
        rw [hLb] at hL5
        have ha : after (run st0 (l.take k)) ⟨key, val⟩ = run st0 (l.take (k + 1)) := by
          unfold after
          rw [if_pos HE.out, HTK.out]
        rw [ha] at hb5
        have HBT5 := Lib.hid hb5
        clear hb5 ha HADD HBT4 HBEL4
        go_wp2_with fail
        go_roundw
        case rel => exact ⟨k + 1, by omega, by go_num, Lib.hid ⟨L5, hL5, HBT5.out, HBEL5.out⟩⟩
        case measure => simp [intOf]; omega
      · obtain rfl : k = l.length := by omega
        rw [List.take_length] at HBT
        have hso := sound_run _ _ sound0 HGOOD.out
        have hnn : (run st0 l).n = l.length := by rw [run_n]; show 0 + _ = _; omega
        have hf1 : (run st0 l).rows.length ≤ 100000000000 := by have := hso.rows; omega
        have hf2 : (run st0 l).foot.length ≤ 100000000000 := by rw [hso.foot]; omega
        have HF1 := Lib.hid hf1; have HF2 := Lib.hid hf2; have HNN := Lib.hid hnn
        have HSZ := Lib.hid (size_any HBT.out hf1 hf2)
        rw [hLb, HFL.out] at HSZ
        clear hso hf1 hf2 hnn
        go_wp2_with fail
        refine HLN.out.mono ?_
        rintro e w3 ⟨rfl, rfl⟩
        go_wp2_with fail
        refine HSZ.out.mono ?_
        rintro e w4 ⟨rfl, hb4⟩
        have HBT4 := Lib.hid (HBT.out.below hb4)
        have HBEL4 := Lib.hid (HBEL.out.trans (hb4.mono HBEL.out.size))
        have HFI := Lib.hid (finish_any HBT4.out HF1.out HF2.out (by rw [HNN.out]; omega))
        rw [hLb, HFT.out] at HFI
        clear hb4 HSZ HLN HBT HBEL
        go_wp2_with fail
        refine HFI.out.mono ?_
        rintro e w5 ⟨rfl, hg5⟩
        have HBEL5 := Lib.hid (HBEL4.out.trans (GoesB.to_below HBT4.out hg5))
        clear hg5
        go_wp2_with fail
        refine (awake_any _).mono ?_
        rintro e w6 ⟨rfl, hb6⟩
        go_wp2_with fail
        go_ret
        have h5 : Below w.heap.size w w5 := HB2.out.trans (HBEL5.out.mono HB2.out.size)
        exact ⟨rfl, h5.trans (hb6.mono h5.size)⟩

set_option maxHeartbeats 4000000 in
set_option maxRecDepth 100000 in
theorem only_long (s : ByteArray) (w : World) (hs : (8000 : Int) < s.size) :
    Calls Try.prog 7 #[.string s] w (Gives (.bool true) w) := by
  obtain ⟨T, hT⟩ : ∃ T : ByteArray, T = s.extract 0 8000 := ⟨_, rfl⟩
  have hcut : s.extract 0 8000 = T := hT.symm
  have hsz : T.size ≤ 8000 := by rw [hT, ByteArray.size_extract]; omega
  have hle : (8000 : Int) ≤ s.size := by omega
  clear hT
  have HOP := Lib.hid (open_any T w (by omega))
  cases ho : opn T.data.toList with
  | none =>
    rw [ho] at HOP
    go_enter Try.func7, Try.ntmps7
    go_wp2_with fail
    refine HOP.out.mono ?_
    rintro e w1 ⟨hb1, he⟩
    dsimp only at he
    subst he
    have HB1 := Lib.hid hb1; clear hb1
    go_wp2_with fail
    refine (awake_any _).mono ?_
    rintro e w2 ⟨rfl, hb2⟩
    go_wp2_with fail
    go_ret
    exact ⟨rfl, HB1.out.trans (hb2.mono HB1.out.size)⟩
  | some l =>
    rw [ho] at HOP
    obtain ⟨hgood, hbytes⟩ := opn_some ho
    have hll : l.length ≤ 8000 := by
      have h1 := fin_length (run st0 l)
      have h2 := run_rows l st0
      have h3 := rows_least l st0
      rw [show st0.rows = [] from rfl, List.nil_append] at h2
      rw [h2] at h1
      have h4 : (fin (run st0 l)).length = T.size := by rw [← len, ← hbytes]; rfl
      omega
    have HGOOD := Lib.hid hgood
    have HFT : Hid ((⟨(fin (run st0 l)).toArray⟩ : ByteArray) = T) := Lib.hid (by
      show (⟨(bytes l).toArray⟩ : ByteArray) = T
      rw [hbytes])
    have HFL : Hid ((fin (run st0 l)).length = T.size) := Lib.hid (by rw [← len, ← hbytes]; rfl)
    clear ho hgood hbytes
    go_enter Try.func7, Try.ntmps7
    go_wp2_with fail
    refine HOP.out.mono ?_
    rintro e w2 ⟨hb2, p, v, rs, rfl, hblk, hrs, -⟩
    have HB2 := Lib.hid hb2; have HBK := Lib.hid hblk; have HRS := Lib.hid hrs
    have HRL : Hid (rs.length = l.length) := Lib.hid (by rw [← hrs, List.length_map])
    have HVS : Hid (∀ x ∈ rs, x.2.val.size ≤ 1000000000) := Lib.hid (fun x hx => by
      have h1 : x.2 ∈ l := by rw [← hrs]; exact List.mem_map_of_mem (f := Prod.snd) hx
      have := (good_sizes l st0 HGOOD.out x.2 h1).2
      omega)
    have HNB := Lib.hid (new_built w2)
    clear hb2 hblk hrs HOP
    go_wp2_with fail
    go_loopw [6] (fun i wr => ∃ (k : Nat), k ≤ l.length ∧ i = .int .i64 k ∧ Hid (∃ L, L.b = w2.heap.size ∧ Built wr w2.heap.size L (run st0 (l.take k)) ∧ Below w2.heap.size w2 wr)) (fun i _ => l.length - (intOf i).toNat)
    case atStart => exact ⟨0, Nat.zero_le _, rfl, Lib.hid ⟨_, rfl, HNB.out, (Below.refl _ _).alloc (Nat.le_refl _) _⟩⟩
    case round =>
      obtain ⟨k, hk, rfl, HI⟩ := hrel
      obtain ⟨L, hLb, hbt, hbel⟩ := HI.out
      have HBKr := Lib.hid (HBK.out.below hbel)
      have HLN := Lib.hid (len_any HBKr.out)
      rw [HRL.out] at HLN
      have HBT := Lib.hid hbt; have HBEL := Lib.hid hbel
      clear HI hbt hbel
      by_cases hlt : k < l.length
      · obtain ⟨en, hen⟩ : ∃ x, l[k]? = some x := ⟨_, List.getElem?_eq_getElem hlt⟩
        have hkn : (k : Int) < l.length := by omega
        have HAT := Lib.hid (at_any HBKr.out (k : Int) HVS.out)
        have hatv : atV (rs.map Prod.snd) (k : Int) = .tuple #[.string en.key, .string en.val, .bool true] := by
          unfold atV
          rw [if_neg (by omega), Int.toNat_natCast, HRS.out, hen]
        rw [hatv] at HAT
        obtain ⟨hg1, hg2⟩ := good_step l k en hen HGOOD.out
        have HTK : Hid (run st0 (l.take (k + 1)) = step (run st0 (l.take k)) en) := Lib.hid (by
          obtain ⟨h1, h2⟩ := List.getElem?_eq_some_iff.1 hen
          rw [List.take_succ_eq_append_getElem h1, h2, run_snoc])
        have HSO := Lib.hid (sound_run _ _ sound0 hg1)
        have HNN : Hid ((run st0 (l.take k)).n ≤ 2000000) := Lib.hid (by rw [run_n, List.length_take]; show 0 + _ ≤ _; omega)
        have HE := Lib.hid hg2
        obtain ⟨key, val⟩ := en
        dsimp only at HAT
        clear hatv hg1 hg2 hen
        go_wp2_with fail
        refine HLN.out.mono ?_
        rintro e w3 ⟨rfl, rfl⟩
        go_wp2_with fail
        refine HAT.out.mono ?_
        rintro e w4 ⟨rfl, hb4⟩
        have HBT4 := Lib.hid (HBT.out.below hb4)
        have HBEL4 := Lib.hid (HBEL.out.trans (hb4.mono HBEL.out.size))
        have HADD := Lib.hid (add_any HBT4.out HSO.out HNN.out key val)
        rw [HE.out, hLb] at HADD
        clear hb4 HAT HLN HBT HBEL HBKr
        go_wp2_with fail
        refine HADD.out.mono ?_
        rintro e w5 ⟨rfl, hg5⟩
        have HBEL5 := Lib.hid (HBEL4.out.trans (GoesB.to_below HBT4.out hg5))
        obtain ⟨L5, hL5, hb5, -, -⟩ := hg5
        rw [hLb] at hL5
        have ha : after (run st0 (l.take k)) ⟨key, val⟩ = run st0 (l.take (k + 1)) := by
          unfold after
          rw [if_pos HE.out, HTK.out]
        rw [ha] at hb5
        have HBT5 := Lib.hid hb5
        clear hb5 ha HADD HBT4 HBEL4
        go_wp2_with fail
        go_roundw
        case rel => exact ⟨k + 1, by omega, by go_num, Lib.hid ⟨L5, hL5, HBT5.out, HBEL5.out⟩⟩
        case measure => simp [intOf]; omega
      · obtain rfl : k = l.length := by omega
        rw [List.take_length] at HBT
        have hso := sound_run _ _ sound0 HGOOD.out
        have hnn : (run st0 l).n = l.length := by rw [run_n]; show 0 + _ = _; omega
        have hf1 : (run st0 l).rows.length ≤ 100000000000 := by have := hso.rows; omega
        have hf2 : (run st0 l).foot.length ≤ 100000000000 := by rw [hso.foot]; omega
        have HF1 := Lib.hid hf1; have HF2 := Lib.hid hf2; have HNN := Lib.hid hnn
        have HSZ := Lib.hid (size_any HBT.out hf1 hf2)
        rw [hLb, HFL.out] at HSZ
        clear hso hf1 hf2 hnn
        go_wp2_with fail
        refine HLN.out.mono ?_
        rintro e w3 ⟨rfl, rfl⟩
        go_wp2_with fail
        refine HSZ.out.mono ?_
        rintro e w4 ⟨rfl, hb4⟩
        have HBT4 := Lib.hid (HBT.out.below hb4)
        have HBEL4 := Lib.hid (HBEL.out.trans (hb4.mono HBEL.out.size))
        have HFI := Lib.hid (finish_any HBT4.out HF1.out HF2.out (by rw [HNN.out]; omega))
        rw [hLb, HFT.out] at HFI
        clear hb4 HSZ HLN HBT HBEL
        go_wp2_with fail
        refine HFI.out.mono ?_
        rintro e w5 ⟨rfl, hg5⟩
        have HBEL5 := Lib.hid (HBEL4.out.trans (GoesB.to_below HBT4.out hg5))
        clear hg5
        go_wp2_with fail
        refine (awake_any _).mono ?_
        rintro e w6 ⟨rfl, hb6⟩
        go_wp2_with fail
        go_ret
        have h5 : Below w.heap.size w w5 := HB2.out.trans (HBEL5.out.mono HB2.out.size)
        exact ⟨rfl, h5.trans (hb6.mono h5.size)⟩

theorem only_walk (s : ByteArray) (w : World) (hs : s.size ≤ 9223372036854775807) :
    Calls Try.prog 7 #[.string s] w (Gives (.bool true) w) := by
  by_cases h : (8000 : Int) < s.size
  · exact only_long s w h
  · exact only_short s w h
end Go.Proofs.Ytjpmcphfiiiecaa.Bo
