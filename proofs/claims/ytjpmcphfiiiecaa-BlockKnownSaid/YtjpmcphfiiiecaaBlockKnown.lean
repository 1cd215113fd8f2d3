/- The walk of BlockKnown. -/
import Derived.Test.YtjpmcphfiiiecaaBoK
namespace Go.Proofs.Ytjpmcphfiiiecaa.Bo
open Go Go.RowKit
set_option linter.unusedVariables false

def ea : En := ⟨⟨#[97, 98]⟩, ⟨#[]⟩⟩
def ez : En := ⟨⟨#[]⟩, ⟨#[]⟩⟩
def e0 : En := ⟨⟨#[0]⟩, ⟨#[]⟩⟩
def eb (x : ByteArray) : En := ⟨⟨#[98]⟩, x⟩
def s1 : St := step st0 ea
theorem errA : err st0 ea = 0 := by decide
theorem errB : err s1 ea = 1 := by decide
theorem errC : err s1 ez = 1 := by decide
theorem errD (x : ByteArray) (h : x.size = 1025) : err s1 ⟨x, ⟨#[]⟩⟩ = 3 := by unfold err; rw [if_pos (Or.inl (by show 1024 < x.size; omega))]
theorem errE (x : ByteArray) (h : x.size = 1025) : err s1 (eb x) = 3 := by unfold err; rw [if_pos (Or.inr (by show 1024 < x.size; omega))]
theorem errF (x : ByteArray) (h : x.size = 1024) : err st0 ⟨⟨#[]⟩, x⟩ = 0 := by
  unfold err
  rw [if_neg, if_neg]
  · exact fun hh => hh.1 rfl
  · intro hh
    rcases hh with hh | hh
    · have h2 : 1024 < 0 := hh
      omega
    · have : 1024 < x.size := hh
      omega
theorem errG (x : ByteArray) (h : x.size = 1024) : err (step st0 ⟨⟨#[]⟩, x⟩) e0 = 0 := by
  unfold err
  rw [if_neg (by decide), if_neg]
  rintro ⟨_, hh⟩
  revert hh
  show Op.bytesLess [] [0] = false → False
  decide
theorem after_ok {s : St} {e : En} (h : err s e = 0) : after s e = step s e := by unfold after; rw [if_pos h]
theorem after_no {s : St} {e : En} {n : Nat} (h : err s e = n + 1) : after s e = s := by unfold after; rw [if_neg (by omega)]
theorem made_cell (n j : Nat) (h : j < n) : (madeCells (Value.int .u8 0).cells ((n : Int).toNat * 1))[j]? = some (.int .u8 0) := by
  simp [madeCells, Value.cells, h, Nat.mod_one]
theorem bytes0 : bytes [] = [0, 0, 0, 0] := by decide
theorem open0 : opn [0, 0, 0, 0] = some [] := by rw [← bytes0]; exact opn_bytes [] rfl (by decide)
theorem openN : opn [] = none := rfl

theorem Blk.apart0 {w w' : World} {b0 base p : Nat} {v : Value} {L : BL} {s : St} (h : Blk w b0 p v []) (hb : Built w base L s) (ht : Turns (OwnB L) w w') : Blk w' b0 p v [] := by
  have hne : ∀ k cs t fz, w.heap[k]? = some (.cells cs t fz) → t ≠ 25 → t ≠ 5 → ¬ OwnB L k := by
    intro k cs t fz hk h1 h2 ho
    rcases ho with rfl | ho | ho
    · rw [hb.box] at hk
      simp only [Option.some.injEq, Obj.cells.injEq] at hk
      exact h1 hk.2.1.symm
    · obtain ⟨c2, hc2⟩ := ownsRow_obj hb.rows ho
      rw [hc2] at hk
      simp only [Option.some.injEq, Obj.cells.injEq] at hk
      exact h2 hk.2.1.symm
    · obtain ⟨c2, hc2⟩ := ownsRow_obj hb.foot ho
      rw [hc2] at hk
      simp only [Option.some.injEq, Obj.cells.injEq] at hk
      exact h2 hk.2.1.symm
  refine ⟨(ht.block p (heap_lt h.box) (hne _ _ _ _ h.box (by decide) (by decide))).trans h.box, ownsRow_frame h.own.own fun k hk => ?_, fun x hx => by cases hx⟩
  obtain ⟨c2, hc2⟩ := ownsRow_obj h.own.own hk
  exact ht.block k (heap_lt hc2) (hne _ _ _ _ hc2 (by decide) (by decide))

set_option maxHeartbeats 8000000 in
set_option maxRecDepth 100000 in
theorem known_walk (w : World) : Calls Try.prog 3 #[] w (Gives (.bool true) w) := by
  obtain ⟨i0, hi, hz0, hz1, hz2⟩ := info_parts info_u8
  obtain ⟨M, hM⟩ : ∃ M, M = madeCells (Value.int .u8 0).cells (((1025 : Nat) : Int).toNat * i0.size) := ⟨_, rfl⟩
  have hmk : ∀ W : World, (Instr.makeSlice 22 (.int .i64 1025) (.int .i64 1025)).run Try.prog W = .ok (.slice (some ⟨W.heap.size, 0, none⟩) 1025 1025) (W.alloc (.cells M 5)) := fun W => by
    have h := run_make (P := Try.prog) W 22 5 i0 (.int .u8 0) Try.underlying22 hi hz0 .i64 .i64 ((1025 : Nat) : Int) ((1025 : Nat) : Int) (by omega) (by omega) (by rw [hz2]; omega) (by omega)
    rw [← hM] at h
    simpa using h
  obtain ⟨LG, hLG⟩ : ∃ LG : ByteArray, LG = ⟨(List.replicate 1025 0).toArray⟩ := ⟨_, rfl⟩
  have hsz : LG.size = 1025 := by rw [hLG, size_mk, List.length_replicate]
  have hcv : ∀ W : World, (convert 22 9 (.slice (some ⟨W.heap.size, 0, none⟩) 1025 1025)).run Try.prog (W.alloc (.cells M 5)) = .ok (.string LG) (W.alloc (.cells M 5)) := fun W => by
    have := run_convert_bytes_back (P := Try.prog) (W.alloc (.cells M 5)) 22 9 5 ⟨W.heap.size, 0, none⟩ 1025 (List.replicate 1025 (0 : UInt8)) Try.underlying22 Try.underlying5 Try.underlying9 (fun j hj => by
      rw [List.length_replicate] at hj
      rw [add_none, cell_of (heap_alloc_new W _), hM, hz1]
      rw [made_cell 1025 j hj, List.getElem_replicate]
      rfl)
    rw [List.length_replicate] at this
    rw [hLG]
    exact this
  have HLS := Lib.hid hsz
  clear hM hLG hz0 hz1 hz2 hi
  have hsi : (LG.size : Int) = 1025 := by omega
  have hle : (1024 : Int) ≤ LG.size := by omega
  clear hsz
  obtain ⟨LC, hLC⟩ : ∃ LC : ByteArray, LC = LG.extract 0 1024 := ⟨_, rfl⟩
  have HLC : Hid (LC.size = 1024) := Lib.hid (by rw [hLC, ByteArray.size_extract]; have := HLS.out; omega)
  go_enter Try.func3, Try.ntmps3
  go_wp2_with fail
  have hcut0 : LG.extract 0 1024 = LC := hLC.symm
  have hnb := new_built (w.alloc (.cells M 5))
  rw [World.size_alloc] at hnb
  have HT := Lib.hid hnb; clear hnb
  have HB : Hid (Below w.heap.size w ((w.alloc (.cells M 5)).alloc (.cells #[.slice none 0 0, .slice none 0 0, .int .i64 0, .string ⟨#[]⟩] 25))) := Lib.hid (((Below.refl _ _).alloc (Nat.le_refl _) _).alloc (by simp) _)
  obtain ⟨L, hL⟩ : ∃ L : BL, L = ⟨w.heap.size + 1, .slice none 0 0, .slice none 0 0⟩ := ⟨_, rfl⟩
  rw [← hL] at HT
  have hLb : L.b = w.heap.size + 1 := by rw [hL]
  clear hL
  clear hLC
  have HA1 := Lib.hid (sound0.step errA)
  have HC1 := Lib.hid (size_any HT.out (by decide) (by decide))
  rw [show ((fin st0).length : Int) = 4 from rfl, hLb] at HC1
  refine HC1.out.mono ?_
  rintro e W1 ⟨rfl, hb1⟩
  have HT1 := Lib.hid (HT.out.below hb1)
  have HB1 := Lib.hid (HB.out.trans (hb1.mono HB.out.size))
  clear HC1 hb1 HT HB
  have HT := HT1; have HB := HB1
  clear HT1 HB1
  go_wp2_with fail
  have HC2 := Lib.hid (count_any HT.out)
  rw [show ((st0.n : Nat) : Int) = 0 from rfl, hLb] at HC2
  refine HC2.out.mono ?_
  rintro e W2 ⟨rfl, rfl⟩
  clear HC2
  go_wp2_with fail
  have HC3 := Lib.hid (add_any HT.out sound0 (by decide) ⟨#[97, 98]⟩ ⟨#[]⟩)
  rw [show (⟨⟨#[97, 98]⟩, ⟨#[]⟩⟩ : En) = ea from rfl, errA, after_ok errA, show step st0 ea = s1 from rfl, hLb] at HC3
  refine HC3.out.mono ?_
  rintro e W3 ⟨rfl, hg3⟩
  have HB3 := Lib.hid (HB.out.trans ((GoesB.to_below HT.out hg3).mono (Nat.le_succ _)))
  obtain ⟨L3, hL3, hb3, -, -⟩ := hg3
  rw [hLb] at hL3
  have HT3 := Lib.hid hb3
  clear HC3 hb3 HT HB hLb
  have HT := HT3; have HB := HB3; have hLb := hL3
  clear HT3 HB3 hL3
  go_wp2_with fail
  have HC4 := Lib.hid (add_any HT.out HA1.out (by decide) ⟨#[97, 98]⟩ ⟨#[]⟩)
  rw [show (⟨⟨#[97, 98]⟩, ⟨#[]⟩⟩ : En) = ea from rfl, errB, after_no errB, hLb] at HC4
  refine HC4.out.mono ?_
  rintro e W4 ⟨rfl, hg4⟩
  have HB4 := Lib.hid (HB.out.trans ((GoesB.to_below HT.out hg4).mono (Nat.le_succ _)))
  obtain ⟨L4, hL4, hb4, -, -⟩ := hg4
  rw [hLb] at hL4
  have HT4 := Lib.hid hb4
  clear HC4 hb4 HT HB hLb
  have HT := HT4; have HB := HB4; have hLb := hL4
  clear HT4 HB4 hL4
  go_wp2_with fail
  have HC5 := Lib.hid (add_any HT.out HA1.out (by decide) ⟨#[]⟩ ⟨#[]⟩)
  rw [show (⟨⟨#[]⟩, ⟨#[]⟩⟩ : En) = ez from rfl, errC, after_no errC, hLb] at HC5
  refine HC5.out.mono ?_
  rintro e W5 ⟨rfl, hg5⟩
  have HB5 := Lib.hid (HB.out.trans ((GoesB.to_below HT.out hg5).mono (Nat.le_succ _)))
  obtain ⟨L5, hL5, hb5, -, -⟩ := hg5
  rw [hLb] at hL5
  have HT5 := Lib.hid hb5
  clear HC5 hb5 HT HB hLb
  have HT := HT5; have HB := HB5; have hLb := hL5
  clear HT5 HB5 hL5
  go_wp2_with fail
  have HC6 := Lib.hid (add_any HT.out HA1.out (by decide) LG ⟨#[]⟩)
  rw [errD LG HLS.out, after_no (errD LG HLS.out), hLb] at HC6
  refine HC6.out.mono ?_
  rintro e W6 ⟨rfl, hg6⟩
  have HB6 := Lib.hid (HB.out.trans ((GoesB.to_below HT.out hg6).mono (Nat.le_succ _)))
  obtain ⟨L6, hL6, hb6, -, -⟩ := hg6
  rw [hLb] at hL6
  have HT6 := Lib.hid hb6
  clear HC6 hb6 HT HB hLb
  have HT := HT6; have HB := HB6; have hLb := hL6
  clear HT6 HB6 hL6
  go_wp2_with fail
  have HC7 := Lib.hid (add_any HT.out HA1.out (by decide) ⟨#[98]⟩ LG)
  rw [show (⟨⟨#[98]⟩, LG⟩ : En) = eb LG from rfl, errE LG HLS.out, after_no (errE LG HLS.out), hLb] at HC7
  refine HC7.out.mono ?_
  rintro e W7 ⟨rfl, hg7⟩
  have HB7 := Lib.hid (HB.out.trans ((GoesB.to_below HT.out hg7).mono (Nat.le_succ _)))
  obtain ⟨L7, hL7, hb7, -, -⟩ := hg7
  rw [hLb] at hL7
  have HT7 := Lib.hid hb7
  clear HC7 hb7 HT HB hLb
  have HT := HT7; have HB := HB7; have hLb := hL7
  clear HT7 HB7 hL7
  go_wp2_with fail
  have HC8 := Lib.hid (count_any HT.out)
  rw [show ((s1.n : Nat) : Int) = 1 from rfl, hLb] at HC8
  refine HC8.out.mono ?_
  rintro e W8 ⟨rfl, rfl⟩
  clear HC8
  clear HT hLb HA1
  obtain ⟨WS, hWS⟩ : ∃ WS, WS = W8 := ⟨_, rfl⟩
  subst hWS
  have HT := Lib.hid (new_built WS)
  have HB2 : Hid (Below w.heap.size w (WS.alloc (.cells #[.slice none 0 0, .slice none 0 0, .int .i64 0, .string ⟨#[]⟩] 25))) := Lib.hid (HB.out.alloc HB.out.size _)
  have HBS := Lib.hid HB.out.size
  clear HB
  have HB := HB2; clear HB2
  obtain ⟨L, hL⟩ : ∃ L : BL, L = ⟨WS.heap.size, .slice none 0 0, .slice none 0 0⟩ := ⟨_, rfl⟩
  rw [← hL] at HT
  have hLb : L.b = WS.heap.size := by rw [hL]
  clear hL
  go_wp2_with fail
  have HC9 := Lib.hid (finish_any HT.out (by decide) (by decide) (by decide))
  rw [show fin st0 = [0, 0, 0, 0] from bytes0, hLb] at HC9
  refine HC9.out.mono ?_
  rintro e W9 ⟨rfl, hg9⟩
  have HB9 := Lib.hid (HB.out.trans ((GoesB.to_below HT.out hg9).mono HBS.out))
  obtain ⟨L9, hL9, hb9, -, -⟩ := hg9
  rw [hLb] at hL9
  have HT9 := Lib.hid hb9
  clear HC9 hb9 HT HB hLb
  have HT := HT9; have HB := HB9; have hLb := hL9
  clear HT9 HB9 hL9
  go_wp2_with fail
  have HOP := Lib.hid (open_any ⟨#[0, 0, 0, 0]⟩ W9 (by decide))
  rw [show (⟨#[0, 0, 0, 0]⟩ : ByteArray).data.toList = [0, 0, 0, 0] from rfl, open0] at HOP
  refine HOP.out.mono ?_
  rintro e W10 ⟨hb10, p, v, rs, rfl, hblk, hrs, hp⟩
  obtain rfl : rs = [] := by simpa using hrs
  have HT10 := Lib.hid (HT.out.below hb10)
  have HB10 := Lib.hid (HB.out.trans (hb10.mono HB.out.size))
  clear HT HB HOP
  have HT := HT10; have HB := HB10
  have HK := Lib.hid hblk
  clear HT10 HB10 hb10 hblk hrs hp
  go_wp2_with fail
  have HOP := Lib.hid (open_any ⟨#[]⟩ W10 (by decide))
  rw [show (⟨#[]⟩ : ByteArray).data.toList = [] from rfl, openN] at HOP
  refine HOP.out.mono ?_
  rintro e W11 ⟨hb11, he⟩
  dsimp only at he
  subst he
  have HT11 := Lib.hid (HT.out.below hb11)
  have HB11 := Lib.hid (HB.out.trans (hb11.mono HB.out.size))
  have HK11 := Lib.hid (HK.out.below hb11)
  clear HT HB HOP HK
  have HT := HT11; have HB := HB11; have HK := HK11
  clear HT11 HB11 hb11 HK11
  go_wp2_with fail
  have HC12 := Lib.hid (add_any HT.out sound0 (by decide) ⟨#[]⟩ LC)
  rw [errF LC HLC.out, after_ok (errF LC HLC.out), hLb] at HC12
  refine HC12.out.mono ?_
  rintro e W12 ⟨rfl, hg12⟩
  have HB12 := Lib.hid (HB.out.trans ((GoesB.to_below HT.out hg12).mono HBS.out))
  obtain ⟨L12, hL12, hb12, ht12, -⟩ := hg12
  have HK12 := Lib.hid (HK.out.apart0 HT.out ht12)
  clear HK ht12
  have HK := HK12
  clear HK12
  rw [hLb] at hL12
  have HT12 := Lib.hid hb12
  clear HC12 hb12 HT HB hLb
  have HT := HT12; have HB := HB12; have hLb := hL12
  clear HT12 HB12 hL12
  go_wp2_with fail
  have HC13 := Lib.hid (add_any HT.out (sound0.step (errF LC HLC.out)) (by show 0 + 1 ≤ 2000000; omega) ⟨#[0]⟩ ⟨#[]⟩)
  rw [show (⟨⟨#[0]⟩, ⟨#[]⟩⟩ : En) = e0 from rfl, errG LC HLC.out, hLb] at HC13
  refine HC13.out.mono ?_
  rintro e W13 ⟨rfl, hg13⟩
  have HB13 := Lib.hid (HB.out.trans ((GoesB.to_below HT.out hg13).mono HBS.out))
  obtain ⟨L13, hL13, hb13, ht13, -⟩ := hg13
  have HK13 := Lib.hid (HK.out.apart0 HT.out ht13)
  clear HK ht13
  have HK := HK13
  clear HK13
  rw [hLb] at hL13
  have HT13 := Lib.hid hb13
  clear HC13 hb13 HT HB hLb
  have HT := HT13; have HB := HB13; have hLb := hL13
  clear HT13 HB13 hL13
  go_wp2_with fail
  clear HT hLb
  refine (at_nil 0 _ (by decide)).mono ?_
  rintro e W20 ⟨rfl, hb20⟩
  have HB20 := Lib.hid (HB.out.trans (hb20.mono HB.out.size))
  have HK20 := Lib.hid (HK.out.below hb20)
  clear HB HK hb20
  have HLN := Lib.hid (len_any HK20.out)
  rw [show ((([] : List Row).length : Nat) : Int) = 0 from rfl] at HLN
  have HSK := Lib.hid (seek_any HK20.out ⟨#[97]⟩ (by decide) List.Pairwise.nil)
  rw [show ((seekN (([] : List Row).map Prod.snd) ⟨#[97]⟩ : Nat) : Int) = 0 from rfl] at HSK
  clear HK20
  go_wp2_with fail
  refine HLN.out.mono ?_
  rintro e W21 ⟨rfl, rfl⟩
  clear HLN
  go_wp2_with fail
  refine HSK.out.mono ?_
  rintro e W22 ⟨rfl, hb22⟩
  have HB22 := Lib.hid (HB20.out.trans (hb22.mono HB20.out.size))
  clear HSK HB20 hb22
  go_wp2_with fail
  refine (add_nil _ _ _).mono ?_
  rintro e W23 ⟨rfl, rfl⟩
  go_wp2_with fail
  refine (count_nil _).mono ?_
  rintro e W24 ⟨rfl, rfl⟩
  go_wp2_with fail
  refine (size_nil _).mono ?_
  rintro e W25 ⟨rfl, rfl⟩
  go_wp2_with fail
  refine (finish_nil _).mono ?_
  rintro e W26 ⟨rfl, rfl⟩
  go_wp2_with fail
  refine (len_nil _).mono ?_
  rintro e W27 ⟨rfl, rfl⟩
  go_wp2_with fail
  refine (seek_nil _ _).mono ?_
  rintro e W28 ⟨rfl, hb28⟩
  have HB28 := Lib.hid (HB22.out.trans (hb28.mono HB22.out.size))
  clear HB22 hb28
  go_wp2_with fail
  refine (awake_any _).mono ?_
  rintro e W29 ⟨rfl, hb29⟩
  go_wp2_with fail
  go_ret
  exact ⟨rfl, HB28.out.trans (hb29.mono HB28.out.size)⟩
end Go.Proofs.Ytjpmcphfiiiecaa.Bo
