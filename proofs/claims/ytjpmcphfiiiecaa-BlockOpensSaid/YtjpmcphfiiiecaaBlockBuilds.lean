/- The walk of BlockBuilds. -/
import Derived.Test.YtjpmcphfiiiecaaBoT
import Derived.Test.YtjpmcphfiiiecaaBlockBack
namespace Go.Proofs.Ytjpmcphfiiiecaa.Bo
open Go Go.RowKit
set_option linter.unusedVariables false

/-- The entries behind an Add. -/
def more (l : List En) (e : En) : List En := if err (run st0 l) e = 0 then l ++ [e] else l
theorem more_run (l : List En) (e : En) : run st0 (more l e) = after (run st0 l) e := by
  unfold more after
  split
  · exact run_snoc _ _ _
  · rfl
theorem more_good (l : List En) (e : En) (h : goodb st0 l = true) : goodb st0 (more l e) = true := by
  unfold more
  split
  · rename_i he
    rw [good_snoc, h, decide_eq_true he]; rfl
  · exact h
theorem more_len (l : List En) (e : En) : (more l e).length ≤ l.length + 1 := by
  unfold more
  split
  · rw [List.length_append]; exact Nat.le_refl _
  · omega
/-- The document's Add. -/
theorem refAdd_any {w : World} {b0 : Nat} {a : Option Addr} {n c : Nat} {l : List En} (hs : OwnsN w b0 (.slice a n c) l) (hl : l.length = n) (hn : n ≤ 1000000) (k v : ByteArray) :
    Calls Try.prog 19 #[.slice a n c, .string k, .string v] w fun e w' => Below w.heap.size w w' ∧ ∃ a' c' b', e = .returned (.tuple #[.slice a' (more l ⟨k, v⟩).length c', .int .i64 (err (run st0 l) ⟨k, v⟩ : Int)]) ∧ OwnsN w' b' (.slice a' (more l ⟨k, v⟩).length c') (more l ⟨k, v⟩) := by
  by_cases he : err (run st0 l) ⟨k, v⟩ = 0
  · refine (refAdd_ok hs hl hn k v he).mono ?_
    rintro e w' ⟨hb, a', c', rfl, ho⟩
    have hm : more l ⟨k, v⟩ = l ++ [⟨k, v⟩] := by unfold more; rw [if_pos he]
    have hml : (more l ⟨k, v⟩).length = n + 1 := by rw [hm, List.length_append, hl]; rfl
    rw [he]
    refine ⟨hb, a', c', w.heap.size, by rw [hml]; rfl, ?_⟩
    rw [hml, hm]
    exact ho
  · have hm : more l ⟨k, v⟩ = l := by unfold more; rw [if_neg he]
    rw [hm, hl]
    by_cases hlg : 1024 < k.size ∨ 1024 < v.size
    · have he3 : err (run st0 l) ⟨k, v⟩ = 3 := by unfold err; rw [if_pos hlg]
      rw [he3]
      refine (refAdd_long hl k v hlg).mono ?_
      rintro e w' ⟨rfl, rfl⟩
      exact ⟨Below.refl _ _, a, c, b0, rfl, hs⟩
    · by_cases hlt : (run st0 l).n ≠ 0 ∧ Op.bytesLess (run st0 l).last.data.toList k.data.toList = false
      · have he1 : err (run st0 l) ⟨k, v⟩ = 1 := by unfold err; rw [if_neg hlg, if_pos hlt]
        rw [he1]
        refine (refAdd_low hs.sees hl hn k v (by omega) (by omega) hlt.1 hlt.2).mono ?_
        rintro e w' ⟨rfl, rfl⟩
        exact ⟨Below.refl _ _, a, c, b0, rfl, hs⟩
      · exact absurd (show err (run st0 l) ⟨k, v⟩ = 0 by unfold err; rw [if_neg hlg, if_neg hlt]) he

/-- An act's key and value, and what was there is as it was. -/
abbrev RK (w : World) (b o1 o2 : Nat) (key val : ByteArray) (w' : World) : Prop := w'.cell? ⟨b, o1, none⟩ = some (.string key) ∧ w'.cell? ⟨b, o2, none⟩ = some (.string val) ∧ Below w.heap.size w w'
theorem RK.of {w w' : World} {b o1 o2 : Nat} {key val : ByteArray} (hb : b < w.heap.size) (h1 : w.cell? ⟨b, o1, none⟩ = some (.string key)) (h2 : w.cell? ⟨b, o2, none⟩ = some (.string val)) (h : Below w.heap.size w w') : RK w b o1 o2 key val w' :=
  ⟨(h.cell (p := ⟨b, _, none⟩) hb).trans h1, (h.cell (p := ⟨b, _, none⟩) hb).trans h2, h⟩
theorem bytes0' : (⟨(bytes []).toArray⟩ : ByteArray) = ⟨#[0, 0, 0, 0]⟩ := by
  have : bytes [] = [0, 0, 0, 0] := by decide
  rw [this]
theorem bytes_z {l : List En} (h : goodb st0 l = true) (hn : l.length ≤ 1000) : (bytes l).length ≤ 3000000 := by
  have hso := sound_run l st0 sound0 h
  have h1 := hso.rows
  have h2 := hso.foot
  have h3 := fin_length (run st0 l)
  rw [run_len] at h1 h2
  show (fin (run st0 l)).length ≤ _
  omega

set_option maxHeartbeats 8000000 in
set_option maxRecDepth 100000 in
theorem builds_great (a : Option Addr) (n c : Nat) (l : List Ac) (w : World) (h : SeesA w (.slice a n c) l) (hg : greatA l = true) :
    Calls Try.prog 4 #[.slice a n c] w (Gives (.bool true) w) := by
  have HGR := Lib.hid (great_any a n c l w h)
  rw [hg] at HGR
  clear h hg
  go_enter Try.func4, Try.ntmps4
  go_wp2_with fail
  refine HGR.out.mono ?_
  rintro e w1 ⟨rfl, hb1⟩
  go_wp2_with fail
  refine (awake_any _).mono ?_
  rintro e w2 ⟨rfl, hb2⟩
  go_wp2_with fail
  go_ret
  exact ⟨rfl, hb1.trans (hb2.mono hb1.size)⟩

set_option maxHeartbeats 8000000 in
set_option maxRecDepth 100000 in
theorem builds_walk (a : Option Addr) (n c : Nat) (l : List Ac) (w : World) (h : SeesA w (.slice a n c) l) :
    Calls Try.prog 4 #[.slice a n c] w (Gives (.bool true) w) := by
  cases hg : greatA l with
  | true => exact builds_great a n c l w h hg
  | false =>
    have hn := few_of hg h.len
    have HGR := Lib.hid (great_any a n c l w h)
    have HH := Lib.hid h
    have HL := Lib.hid h.len
    rw [hg] at HGR
    clear h hg
    go_enter Try.func4, Try.ntmps4
    go_wp2_with fail
    refine HGR.out.mono ?_
    rintro e w1 ⟨rfl, hb1⟩
    have HNB := Lib.hid (new_built w1)
    have HB0 : Hid (Below w.heap.size w (w1.alloc (.cells #[.slice none 0 0, .slice none 0 0, .int .i64 0, .string ⟨#[]⟩] 25))) := Lib.hid (hb1.alloc hb1.size _)
    have HW1 := Lib.hid hb1.size
    clear hb1 HGR
    go_wp2_with fail
    go_loopw [4, 5] (fun u i wr => ∃ (k : Nat) (es : List En) (va : Option Addr) (vc : Nat), k ≤ n ∧ i = .int .i64 k ∧ u = .slice va es.length vc ∧ es.length ≤ k ∧ Hid (goodb st0 es = true ∧ (∃ b0, OwnsN wr b0 (.slice va es.length vc) es) ∧ ∃ L, L.b = w1.heap.size ∧ Built wr w1.heap.size L (run st0 es) ∧ Below w.heap.size w wr)) (fun _ i _ => n - (intOf i).toNat)
    case atStart => exact ⟨0, [], none, 0, Nat.zero_le _, rfl, rfl, Nat.le_refl _, Lib.hid ⟨rfl, ⟨0, OwnsN.nil _ _⟩, _, rfl, HNB.out, HB0.out⟩⟩
    case round =>
      obtain ⟨k, es, va, vc, hk, rfl, rfl, hel, HI⟩ := hrel
      obtain ⟨hgood, ⟨b0, hown⟩, L, hLb, hbt, hbel⟩ := HI.out
      have HSO := Lib.hid (sound_run _ _ sound0 hgood)
      have HGOOD := Lib.hid hgood; have HOWN := Lib.hid hown; have HBT := Lib.hid hbt; have HBEL := Lib.hid hbel
      clear HI hgood hown hbt hbel HNB HB0
      by_cases hlt : k < n
      · obtain ⟨x, hx⟩ : ∃ x, l[k]? = some x := ⟨_, List.getElem?_eq_getElem (by rw [HL.out]; exact hlt)⟩
        obtain ⟨b, off, rfl, hb, ⟨hd, hzk, hzv⟩, k0, k1, k2⟩ := HH.out.get hx
        have hkn : (k : Int) < n := by omega
        have HK1 := Lib.hid k1; have HK2 := Lib.hid k2; have HBL := Lib.hid hb
        obtain ⟨d, ⟨key, val⟩⟩ := x
        dsimp only at *
        have c0 : wr.cell? ⟨b, off + k * 3, none⟩ = some (.int .u8 (d : Int)) := (HBEL.out.cell (p := ⟨b, _, none⟩) HBL.out).trans k0
        have hel2 : es.length ≤ 120 := by omega
        clear k0 k1 k2 hx hb
        by_cases hd0 : d = 0
        · have hdz : ((d : Int) == 0) = true := by simp; omega
          subst hd0
          have HADD := Lib.hid (add_any HBT.out.drew HSO.out (by rw [run_len]; omega) key val)
          rw [hLb] at HADD
          have HR0 := Lib.hid (RK.of HBL.out HK1.out HK2.out HBEL.out.drew)
          have hbw : b < wr.drew.heap.size := Nat.lt_of_lt_of_le HBL.out HBEL.out.size
          go_wp2_with fail
          go_region_held3 (fun w' => w'.cell? ⟨b, off + k * 3 + 1, none⟩ = some (.string key) ∧ w'.cell? ⟨b, off + k * 3 + 2, none⟩ = some (.string val) ∧ Below w.heap.size w w')
            (first | exact HR0.out | exact RK.of HBL.out HK1.out HK2.out (HBEL.out.drew.trans ((GoesB.to_below HBT.out.drew hg4).mono HW1.out)))
            (first | (go_at_call 11; refine HADD.out.mono ?_; rintro e w4 ⟨rfl, hg4⟩))
          have hB4 := HBEL.out.drew.trans ((GoesB.to_below HBT.out.drew hg4).mono HW1.out)
          obtain ⟨L4, hL4, hb4, ht4, -⟩ := hg4
          have ho4 := ownsN_turned (show OwnsN wr.drew _ _ _ from ownsRow_frame HOWN.out (fun _ _ => rfl)) HBT.out.drew ht4
          have HB4 := Lib.hid hB4; have HBT4 := Lib.hid hb4; have HO4 := Lib.hid ho4
          have HRF := Lib.hid (refAdd_any (show OwnsN w4.drew b0 _ _ from ownsRow_frame HO4.out (fun _ _ => rfl)) rfl (by omega) key val)
          have HR4 := Lib.hid (RK.of HBL.out HK1.out HK2.out HB4.out.drew)
          have hbw4 : b < w4.drew.heap.size := Nat.lt_of_lt_of_le HBL.out HB4.out.size
          clear hB4 hb4 ht4 ho4 c0 hbw
          go_wp2_with fail
          go_region_held3 (fun w' => w'.cell? ⟨b, off + k * 3 + 1, none⟩ = some (.string key) ∧ w'.cell? ⟨b, off + k * 3 + 2, none⟩ = some (.string val) ∧ Below w.heap.size w w')
            (first | exact HR4.out | exact RK.of HBL.out HK1.out HK2.out (HB4.out.drew.trans (hb5.mono HB4.out.size)))
            (first | (go_at_call 19; refine HRF.out.mono ?_; rintro e w5 ⟨hb5, fa, fc, bf, rfl, hof⟩))
          obtain ⟨fs, hfs⟩ : ∃ fs, fs = more es ⟨key, val⟩ := ⟨_, rfl⟩
          have hfl : fs.length ≤ es.length + 1 := by rw [hfs]; exact more_len _ _
          have HGF : Hid (goodb st0 fs = true) := Lib.hid (by rw [hfs]; exact more_good _ _ HGOOD.out)
          have hbf : Built w4 w1.heap.size L4 (run st0 fs) := by rw [hfs, more_run]; exact HBT4.out
          rw [← hfs] at hof
          rw [← hfs]
          have hLF := hL4.trans hLb
          have HBF := Lib.hid (hbf.drew.below hb5)
          have HWF := Lib.hid (HB4.out.drew.trans (hb5.mono HB4.out.size))
          have HOF := Lib.hid hof
          obtain ⟨LF, hLL⟩ : ∃ LF, LF = L4 := ⟨_, rfl⟩
          rw [← hLL] at hLF HBF
          clear hfs hb5 hof hbf HRF hL4 hLL hbw4
          generalize err (run st0 es) ⟨key, val⟩ = E at *
          have hzf := bytes_z HGF.out (by omega)
          have hsf := sound_run _ _ sound0 HGF.out
          have hf1 : (run st0 fs).rows.length ≤ 300000 := by have := hsf.rows; rw [run_len] at this; omega
          have hf2 : (run st0 fs).foot.length ≤ 300000 := by rw [hsf.foot, run_len]; omega
          have HCN := Lib.hid (count_any HBF.out)
          rw [run_len, hLF] at HCN
          have HSZ := Lib.hid (size_any HBF.out (by omega) (by omega))
          rw [hLF] at HSZ
          obtain ⟨T, hT⟩ : ∃ T : ByteArray, T = ⟨(bytes fs).toArray⟩ := ⟨_, rfl⟩
          have HBY := Lib.hid (fun W' (hb : Below _ _ W') => refBytes_any fa fs.length fc fs W' ((HOF.out.below hb).sees) rfl HGF.out (by omega))
          rw [← hT] at HBY
          have htz : (T.size : Int) = ((fin (run st0 fs)).length : Int) := by rw [hT, size_mk]; rfl
          have hzl : (fin (run st0 fs)).length ≤ 3000000 := hzf
          clear hT hsf hf1 hf2 hzf
          have HZZ := Lib.hid (show ∃ z, z = (fin (run st0 fs)).length from ⟨_, rfl⟩)
          generalize (fin (run st0 fs)).length = Z at *
          clear HZZ
          go_wp2_with fail
          refine HCN.out.mono ?_
          rintro e w6 ⟨rfl, rfl⟩
          clear HCN
          go_wp2_with fail
          refine HSZ.out.mono ?_
          rintro e w7 ⟨rfl, hb7⟩
          have HB7 := Lib.hid hb7
          have HBY7 := Lib.hid (HBY.out w7 hb7)
          clear hb7 HSZ HBY
          go_wp2_with fail
          refine HBY7.out.mono ?_
          rintro e w8 ⟨rfl, hb8⟩
          have HB8 := Lib.hid (HB7.out.trans (hb8.mono HB7.out.size))
          clear hb8 HB7 HBY7
          go_wp2_with fail
          go_roundw
          case rel => exact ⟨k + 1, fs, fa, fc, by omega, by go_num, rfl, by omega, Lib.hid ⟨HGF.out, ⟨_, HOF.out.below HB8.out⟩, LF, hLF, HBF.out.below HB8.out, HWF.out.trans (HB8.out.mono HWF.out.size)⟩⟩
          case measure => simp [intOf]; omega
        · have hdz : ((d : Int) == 0) = false := by simp; omega
          by_cases hd1 : d = 1
          · have hdo : ((d : Int) == 1) = true := by simp; omega
            obtain ⟨T0, hT0⟩ : ∃ T : ByteArray, T = ⟨(bytes es).toArray⟩ := ⟨_, rfl⟩
            have hso := HSO.out
            have HFI := Lib.hid (finish_any HBT.out (by have := hso.rows; rw [run_len] at this; omega) (by rw [hso.foot, run_len]; omega) (by rw [run_len]; omega))
            rw [show (⟨(fin (run st0 es)).toArray⟩ : ByteArray) = T0 by rw [hT0]; rfl, hLb] at HFI
            have HBY0 := Lib.hid (fun W' (hs : SeesN W' va es) => refBytes_any va es.length vc es W' hs rfl HGOOD.out (by omega))
            rw [← hT0] at HBY0
            clear hT0 hso hd0
            subst hd1
            go_wp2_with fail
            refine HFI.out.mono ?_
            rintro e w4 ⟨rfl, hg4⟩
            have hB4 := HBEL.out.trans ((GoesB.to_below HBT.out hg4).mono HW1.out)
            obtain ⟨L4, hL4, hb4, ht4, -⟩ := hg4
            have HO4 := Lib.hid (ownsN_turned HOWN.out HBT.out ht4)
            have HB4 := Lib.hid hB4; have HBT4 := Lib.hid hb4
            have HBY1 := Lib.hid (HBY0.out w4 HO4.out.sees)
            clear hB4 hb4 ht4 HBY0 HFI
            go_wp2_with fail
            refine HBY1.out.mono ?_
            rintro e w5 ⟨rfl, hb5⟩
            have hLF := hL4.trans hLb
            have HBF : Hid (Built w5 w1.heap.size L4 st0) := Lib.hid (HBT4.out.below hb5)
            have HWF := Lib.hid (HB4.out.trans (hb5.mono HB4.out.size))
            have HCN := Lib.hid (count_any HBF.out)
            rw [show ((st0.n : Nat) : Int) = 0 from rfl, hLF] at HCN
            have HSZ := Lib.hid (size_any HBF.out (by decide) (by decide))
            rw [show ((fin st0).length : Int) = 4 from rfl, hLF] at HSZ
            have HBY2 : Hid (∀ W', Calls Try.prog 20 #[.slice none 0 0] W' (Gives (.string ⟨#[0, 0, 0, 0]⟩) W')) := Lib.hid (fun W' => by
              have := refBytes_any none 0 0 [] W' (fun i x h => by simp at h) rfl rfl (by omega)
              rw [bytes0'] at this
              exact this)
            clear hb5 HBY1 hL4 HBT4 HB4
            go_wp2_with fail
            refine HCN.out.mono ?_
            rintro e w6 ⟨rfl, rfl⟩
            clear HCN
            go_wp2_with fail
            refine HSZ.out.mono ?_
            rintro e w7 ⟨rfl, hb7⟩
            have HB7 := Lib.hid hb7
            clear hb7 HSZ
            go_wp2_with fail
            refine (HBY2.out _).mono ?_
            rintro e w8 ⟨rfl, hb8⟩
            have HB8 := Lib.hid (HB7.out.trans (hb8.mono HB7.out.size))
            clear hb8 HB7 HBY2
            go_wp2_with fail
            go_roundw
            case rel => exact ⟨k + 1, [], none, 0, by omega, by go_num, rfl, Nat.zero_le _, Lib.hid ⟨rfl, ⟨0, OwnsN.nil _ _⟩, L4, hLF, HBF.out.below HB8.out, HWF.out.trans (HB8.out.mono HWF.out.size)⟩⟩
            case measure => simp [intOf]; omega
          · have hdo : ((d : Int) == 1) = false := by simp; omega
            obtain ⟨fs, hfs⟩ : ∃ fs, fs = es := ⟨_, rfl⟩
            rw [← hfs] at HGOOD HOWN HBT hel hel2
            rw [← hfs]
            have hfl : fs.length ≤ k + 1 := by omega
            have HGF := HGOOD; have HBF := HBT; have HWF := HBEL; have HOF := HOWN
            have hLF := hLb
            obtain ⟨LF, hLL⟩ : ∃ LF, LF = L := ⟨_, rfl⟩
            rw [← hLL] at hLF HBF
            clear HGOOD HBT HBEL HOWN hfs hLL hd0 hd1
            have hzf := bytes_z HGF.out (by omega)
            have hsf := sound_run _ _ sound0 HGF.out
            have hf1 : (run st0 fs).rows.length ≤ 300000 := by have := hsf.rows; rw [run_len] at this; omega
            have hf2 : (run st0 fs).foot.length ≤ 300000 := by rw [hsf.foot, run_len]; omega
            have HCN := Lib.hid (count_any HBF.out)
            rw [run_len, hLF] at HCN
            have HSZ := Lib.hid (size_any HBF.out (by omega) (by omega))
            rw [hLF] at HSZ
            obtain ⟨T, hT⟩ : ∃ T : ByteArray, T = ⟨(bytes fs).toArray⟩ := ⟨_, rfl⟩
            have HBY := Lib.hid (fun W' (hb : Below _ _ W') => refBytes_any va fs.length vc fs W' ((HOF.out.below hb).sees) rfl HGF.out (by omega))
            rw [← hT] at HBY
            have htz : (T.size : Int) = ((fin (run st0 fs)).length : Int) := by rw [hT, size_mk]; rfl
            have hzl : (fin (run st0 fs)).length ≤ 3000000 := hzf
            clear hT hsf hf1 hf2 hzf
            have HZZ := Lib.hid (show ∃ z, z = (fin (run st0 fs)).length from ⟨_, rfl⟩)
            generalize (fin (run st0 fs)).length = Z at *
            clear HZZ
            go_wp2_with fail
            refine HCN.out.mono ?_
            rintro e w6 ⟨rfl, rfl⟩
            clear HCN
            go_wp2_with fail
            refine HSZ.out.mono ?_
            rintro e w7 ⟨rfl, hb7⟩
            have HB7 := Lib.hid hb7
            have HBY7 := Lib.hid (HBY.out w7 hb7)
            clear hb7 HSZ HBY
            go_wp2_with fail
            refine HBY7.out.mono ?_
            rintro e w8 ⟨rfl, hb8⟩
            have HB8 := Lib.hid (HB7.out.trans (hb8.mono HB7.out.size))
            clear hb8 HB7 HBY7
            go_wp2_with fail
            go_roundw
            case rel => exact ⟨k + 1, fs, va, vc, by omega, by go_num, rfl, by omega, Lib.hid ⟨HGF.out, ⟨_, HOF.out.below HB8.out⟩, LF, hLF, HBF.out.below HB8.out, HWF.out.trans (HB8.out.mono HWF.out.size)⟩⟩
            case measure => simp [intOf]; omega
      · obtain rfl : k = n := by omega
        go_wp2_with fail
        refine (awake_any _).mono ?_
        rintro e w2 ⟨rfl, hb2⟩
        go_wp2_with fail
        go_ret
        exact ⟨rfl, HBEL.out.trans (hb2.mono HBEL.out.size)⟩
end Go.Proofs.Ytjpmcphfiiiecaa.Bo
