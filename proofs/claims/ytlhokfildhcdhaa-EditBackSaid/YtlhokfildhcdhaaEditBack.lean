/- The walk of EditBack. -/
import Derived.Test.YtlhokfildhcdhaaEditOnly
import Derived.Deep.RegionHeld3
namespace Go.Proofs.Ytlhokfildhcdhaa
open Go.RowKit Sk
set_option linter.unusedVariables false

theorem encode_cases (e : Edt) (h1 : e.add.length ≤ 60) (h2 : e.drop.length ≤ 60) (hI : Ed.In e) : (Ed.chk e.add e.drop = 0 ∧ Ed.encode e = (Ed.enc e, 0) ∧ (Ed.enc e).length ≤ 20000) ∨ (Ed.chk e.add e.drop = 1 ∧ Ed.encode e = ([], 1)) := by
  by_cases h : Ed.chk e.add e.drop = 0
  · left
    have hl : (Ed.enc e).length ≤ 20000 := by
      have a := Ed.rows_length (l := e.add) (Ed.fits_of hI h)
      have b := varl_length e.drop
      have c := varl_length [e.log, e.seq, e.next]
      have d := (Nm.row_length e.add.length).2
      have f := (Nm.row_length e.drop.length).2
      unfold Ed.enc
      simp only [List.length_append, List.length_cons, List.length_nil] at *
      omega
    refine ⟨h, ?_, hl⟩
    unfold Ed.encode
    rw [if_pos h, if_neg (by simp [Ed.long]; omega)]
  · right
    have h1 : Ed.chk e.add e.drop = 1 := by
      unfold Ed.chk at h ⊢
      split
      · rename_i hc; rw [if_pos hc] at h; exact absurd rfl h
      · rfl
    refine ⟨h1, ?_⟩
    unfold Ed.encode
    rw [if_neg h, h1]

set_option maxHeartbeats 8000000 in
theorem back_great (ao : Option Addr) (an ac : Nat) (bo : Option Addr) (bn bc : Nat) (e : Edt) (cut : Int) (s : ByteArray) (w : World) (hA : SeesTb w (.slice ao an ac) e.add) (hD : SeesU w (.slice bo bn bc) e.drop) (hg : greatE e.add e.drop = true ∨ 100 < s.size) (hs : s.size ≤ 9223372036854775807) :
    Calls Try.prog 9 #[edV ao an ac bo bn bc e.log e.seq e.next, .int .u16 cut, .string s] w (Gives (.bool true) w) := by
  have HG : Hid (∀ W, SeesTb W (.slice ao an ac) e.add → Calls Try.prog 19 #[.agg #[.slice ao an ac, .slice bo bn bc, .int .u64 (e.log : Nat), .int .u64 (e.seq : Nat), .int .u64 (e.next : Nat)]] W (Gives (.bool (greatE e.add e.drop)) W)) := Lib.hid (fun W h => great_any ao an ac bo bn bc e W h hD.get.1.symm)
  have HA := Lib.hid hA
  have HB : Hid (∀ o, Below w.heap.size w (w.alloc o)) := Lib.hid (fun o => (Below.refl _ _).alloc (Nat.le_refl _) _)
  clear hA hD
  unfold edV
  generalize greatE e.add e.drop = g at *
  cases g with
  | true =>
    clear hg
    go_enter Try.func9, Try.ntmps9
    go_wp2_with fail
    refine (HG.out _ (by first | exact HA.out | exact HA.out.below (HB.out _))).mono ?_
    rintro r w1 ⟨rfl, hb1⟩
    have HB1 : Hid (Below w.heap.size w w1) := Lib.hid (by first | exact hb1 | exact Below.next (HB.out _) hb1)
    clear hb1
    go_wp2_with fail
    refine (awake_any _).mono ?_
    rintro r w2 ⟨rfl, hb2⟩
    have HB2 : Hid (Below w.heap.size w w2) := Lib.hid (Below.next HB1.out hb2)
    clear hb2
    go_wp2_with fail
    go_ret
    exact ⟨rfl, HB2.out⟩
  | false =>
    have hg' : 100 < s.size := by rcases hg with h | h; · cases h
                                  · exact h
    have hgi : (100 : Int) < s.size := by omega
    clear hg hg'
    go_enter Try.func9, Try.ntmps9
    go_wp2_with fail
    refine (HG.out _ (by first | exact HA.out | exact HA.out.below (HB.out _))).mono ?_
    rintro r w1 ⟨rfl, hb1⟩
    have HB1 : Hid (Below w.heap.size w w1) := Lib.hid (by first | exact hb1 | exact Below.next (HB.out _) hb1)
    clear hb1
    go_wp2_with fail
    refine (awake_any _).mono ?_
    rintro r w2 ⟨rfl, hb2⟩
    have HB2 : Hid (Below w.heap.size w w2) := Lib.hid (Below.next HB1.out hb2)
    clear hb2
    go_wp2_with fail
    go_ret
    exact ⟨rfl, HB2.out⟩

/-- Two edits' boxes. -/
abbrev BkS (w : World) (b3 b0 : Nat) (A3 D3 A0 D0 : Value) (lg sq nx : Nat) : Prop := w.cell? ⟨b3, 0, none⟩ = some A3 ∧ w.cell? ⟨b3, 1, none⟩ = some D3 ∧ w.cell? ⟨b3, 2, none⟩ = some (.int .u64 (lg : Nat)) ∧ w.cell? ⟨b3, 3, none⟩ = some (.int .u64 (sq : Nat)) ∧ w.cell? ⟨b3, 4, none⟩ = some (.int .u64 (nx : Nat)) ∧
  w.cell? ⟨b0, 0, none⟩ = some A0 ∧ w.cell? ⟨b0, 1, none⟩ = some D0 ∧ w.cell? ⟨b0, 2, none⟩ = some (.int .u64 (lg : Nat)) ∧ w.cell? ⟨b0, 3, none⟩ = some (.int .u64 (sq : Nat)) ∧ w.cell? ⟨b0, 4, none⟩ = some (.int .u64 (nx : Nat))
theorem BkS.of {w w' : World} {b3 b0 : Nat} {A3 D3 A0 D0 : Value} {lg sq nx : Nat} (h3 : Ex w b3 A3 D3 lg sq nx) (h0 : Ex w b0 A0 D0 lg sq nx) (hb : Below w.heap.size w w') : BkS w' b3 b0 A3 D3 A0 D0 lg sq nx := by
  obtain ⟨a0, a1, a2, a3, a4, -, -⟩ := Ex.of (kept_block h3 hb : Ex w' b3 A3 D3 lg sq nx)
  obtain ⟨c0, c1, c2, c3, c4, -, -⟩ := Ex.of (kept_block h0 hb : Ex w' b0 A0 D0 lg sq nx)
  exact ⟨a0, a1, a2, a3, a4, c0, c1, c2, c3, c4⟩

set_option maxHeartbeats 8000000 in
theorem back_no (ao : Option Addr) (an ac : Nat) (bo : Option Addr) (bn bc : Nat) (e : Edt) (cut : Int) (s : ByteArray) (w : World) (hA : SeesTb w (.slice ao an ac) e.add) (hD : SeesU w (.slice bo bn bc) e.drop) (hg : greatE e.add e.drop = false) (hs : ¬ 100 < s.size) (hI : Ed.In e) (hk : Ed.chk e.add e.drop = 1) (hen : Ed.encode e = ([], 1)) :
    Calls Try.prog 9 #[edV ao an ac bo bn bc e.log e.seq e.next, .int .u16 cut, .string s] w (Gives (.bool true) w) := by
  have HG : Hid (∀ W, SeesTb W (.slice ao an ac) e.add → Calls Try.prog 19 #[.agg #[.slice ao an ac, .slice bo bn bc, .int .u64 (e.log : Nat), .int .u64 (e.seq : Nat), .int .u64 (e.next : Nat)]] W (Gives (.bool false) W)) := Lib.hid (fun W h => by
    have := great_any ao an ac bo bn bc e W h hD.get.1.symm
    rw [hg] at this; exact this)
  obtain ⟨h60, h61, hsm⟩ := greatE_no hg
  have hal := hA.get.1
  have hdl := hD.get.1
  have HE : Hid (∀ W, SeesTb W (.slice ao an ac) e.add → SeesU W (.slice bo bn bc) e.drop → Calls Try.prog 11 #[.agg #[.slice ao an ac, .slice bo bn bc, .int .u64 (e.log : Nat), .int .u64 (e.seq : Nat), .int .u64 (e.next : Nat)]] W (Told [] 1 W)) := Lib.hid (fun W h1 h2 => by
    have := encode_any ao an ac bo bn bc e W h1 h2 (by omega) (by omega) hI
    rw [hen] at this; exact this)
  have HC : Hid (∀ W, SeesTb W (.slice ao an ac) e.add → SeesU W (.slice bo bn bc) e.drop → Calls Try.prog 13 #[.agg #[.slice ao an ac, .slice bo bn bc, .int .u64 (e.log : Nat), .int .u64 (e.seq : Nat), .int .u64 (e.next : Nat)]] W (Gives (.int .i64 1) W)) := Lib.hid (fun W h1 h2 => by
    have := check_any ao an ac bo bn bc e W h1 h2 (by omega) (by omega)
    rw [hk] at this; exact this)
  have HA := Lib.hid hA; have HD := Lib.hid hD
  have hsi : ¬ (100 : Int) < s.size := by omega
  have HX : Hid (Ex (w.alloc (.cells #[.slice ao an ac, .slice bo bn bc, .int .u64 (e.log : Nat), .int .u64 (e.seq : Nat), .int .u64 (e.next : Nat)] 29)) w.heap.size (.slice ao an ac) (.slice bo bn bc) e.log e.seq e.next) := Lib.hid (heap_alloc_new _ _)
  have HB : Hid (Below w.heap.size w (w.alloc (.cells #[.slice ao an ac, .slice bo bn bc, .int .u64 (e.log : Nat), .int .u64 (e.seq : Nat), .int .u64 (e.next : Nat)] 29))) := Lib.hid ((Below.refl _ _).alloc (Nat.le_refl _) _)
  clear hA hD hg hs hI hal hdl h60 h61 hsm hk hen
  unfold edV
  go_enter Try.func9, Try.ntmps9
  go_wp2_with fail
  refine (HG.out _ (HA.out.below HB.out)).mono ?_
  rintro r w1 ⟨rfl, hb1⟩
  have HB1 : Hid (Below w.heap.size w w1) := Lib.hid (Below.next HB.out hb1)
  have hx1 : Ex w1 w.heap.size (.slice ao an ac) (.slice bo bn bc) e.log e.seq e.next := kept_block HX.out hb1
  have HX1 := Lib.hid hx1
  obtain ⟨c0, c1, c2, c3, c4, cf, clt⟩ := hx1.of
  clear hb1 hx1 HX
  go_wp2_with fail
  refine (HE.out _ (HA.out.below HB1.out) (HD.out.below HB1.out)).mono ?_
  rintro r w2 ⟨rfl, hb2⟩
  have HB2 : Hid (Below w.heap.size w w2) := Lib.hid (Below.next HB1.out hb2)
  have hx2 : Ex w2 w.heap.size (.slice ao an ac) (.slice bo bn bc) e.log e.seq e.next := kept_block HX1.out hb2
  clear c0 c1 c2 c3 c4 cf clt hb2 HX1
  obtain ⟨c0, c1, c2, c3, c4, cf, clt⟩ := hx2.of
  clear hx2
  go_wp2_with fail
  refine (HC.out _ (HA.out.below HB2.out) (HD.out.below HB2.out)).mono ?_
  rintro r w3 ⟨rfl, hb3⟩
  have HB3 : Hid (Below w.heap.size w w3) := Lib.hid (Below.next HB2.out hb3)
  clear hb3
  go_wp2_with fail
  refine (awake_any _).mono ?_
  rintro r w4 ⟨rfl, hb4⟩
  have HB4 : Hid (Below w.heap.size w w4) := Lib.hid (Below.next HB3.out hb4)
  clear hb4
  go_wp2_with fail
  go_ret
  exact ⟨rfl, HB4.out⟩

set_option maxHeartbeats 8000000 in
theorem back_yes (ao : Option Addr) (an ac : Nat) (bo : Option Addr) (bn bc : Nat) (e : Edt) (cut : Int) (s : ByteArray) (w : World) (hA : SeesTb w (.slice ao an ac) e.add) (hD : SeesU w (.slice bo bn bc) e.drop) (hg : greatE e.add e.drop = false) (hs : ¬ 100 < s.size) (hI : Ed.In e) (hc : 0 ≤ cut ∧ cut ≤ 65535) (hk : Ed.chk e.add e.drop = 0) (hen : Ed.encode e = (Ed.enc e, 0)) (hl : (Ed.enc e).length ≤ 20000) :
    Calls Try.prog 9 #[edV ao an ac bo bn bc e.log e.seq e.next, .int .u16 cut, .string s] w (Gives (.bool true) w) := by
  have HG : Hid (∀ W, SeesTb W (.slice ao an ac) e.add → Calls Try.prog 19 #[.agg #[.slice ao an ac, .slice bo bn bc, .int .u64 (e.log : Nat), .int .u64 (e.seq : Nat), .int .u64 (e.next : Nat)]] W (Gives (.bool false) W)) := Lib.hid (fun W h => by
    have := great_any ao an ac bo bn bc e W h hD.get.1.symm
    rw [hg] at this; exact this)
  obtain ⟨h60, h61, hsm⟩ := greatE_no hg
  have hal := hA.get.1
  have hdl := hD.get.1
  have hR := Ed.right_of hI hk (by omega) (by omega)
  obtain ⟨S, hSd⟩ : ∃ S : ByteArray, S.data.toList = Ed.enc e := ⟨⟨(Ed.enc e).toArray⟩, rfl⟩
  have hS1 : 1 ≤ S.size := by
    rw [← length_list, hSd]
    have := (Nm.row_length e.add.length).1
    unfold Ed.enc
    rw [List.length_append]
    omega
  have hS2 : S.size ≤ 20000 := by rw [← length_list, hSd]; exact hl
  have hdc : Ed.decode (Ed.enc e) = some e := by unfold Ed.decode; rw [if_neg (by omega)]; exact Ed.dec_of e hR hk
  have HE : Hid (∀ W, SeesTb W (.slice ao an ac) e.add → SeesU W (.slice bo bn bc) e.drop → Calls Try.prog 11 #[.agg #[.slice ao an ac, .slice bo bn bc, .int .u64 (e.log : Nat), .int .u64 (e.seq : Nat), .int .u64 (e.next : Nat)]] W (fun x W' => x = .returned (.tuple #[.string S, .int .i64 0]) ∧ Below W.heap.size W W')) := Lib.hid (fun W h1 h2 => by
    have := encode_any ao an ac bo bn bc e W h1 h2 (by omega) (by omega) hI
    rw [hen] at this
    unfold Told at this
    dsimp only at this
    rw [mk_of hSd.symm] at this
    exact this)
  have HD1 : Hid (∀ W, Calls Try.prog 14 #[.string S] W (DecRead (some e) W)) := Lib.hid (fun W => by
    have h := decode_any S W (by omega)
    rw [hSd, hdc] at h
    exact h)
  have hS0 : (S.size : Int) ≠ 0 := by omega
  obtain ⟨K, hKm⟩ : ∃ K : Nat, (cut % (S.size : Int)) = (K : Int) := ⟨(cut % (S.size : Int)).toNat, by rw [Int.toNat_of_nonneg (Int.emod_nonneg _ hS0)]⟩
  have hKs : K < S.size := by have := Int.emod_lt_of_pos cut (show (0 : Int) < S.size by omega); omega
  have HD2 : Hid (∀ W, Calls Try.prog 14 #[.string (S.extract 0 K)] W (fun x W' => x = .returned noEd ∧ Below W.heap.size W W')) := Lib.hid (fun W => by
    have h := decode_any (S.extract 0 K) W (by rw [ByteArray.size_extract]; omega)
    have e1 : Ed.decode (S.extract 0 K).data.toList = none := by
      rw [Lib.extract_data, List.drop_zero, Nat.sub_zero, hSd]
      unfold Ed.decode
      split
      · rfl
      · exact Ed.dec_cut e hR K (by rw [← hSd, length_list]; exact hKs)
    rw [e1] at h
    refine h.mono ?_
    rintro x W' ⟨hb, ⟨_, rfl⟩ | ⟨_, _, _, _, _, h, _⟩⟩
    · exact ⟨rfl, hb⟩
    · cases h)
  obtain ⟨M, hM⟩ : ∃ M : Bool, s.toList.isEmpty = M := ⟨_, rfl⟩
  have HD3 : Hid (∀ W, Calls Try.prog 14 #[.string (S ++ s)] W (fun x W' => Below W.heap.size W W' ∧ ∃ (a2 : Option Addr) (l2 k2 : Nat) (b2 : Option Addr) (m2 j2 : Nat) (g1 g2 g3 : Nat), x = .returned (.tuple #[.agg #[.slice a2 l2 k2, .slice b2 m2 j2, .int .u64 g1, .int .u64 g2, .int .u64 g3], .bool M]))) := Lib.hid (fun W => by
    by_cases hu0 : s.size = 0
    · obtain rfl := empty_of_size hu0
      have e1 : M = true := hM.symm.trans (isEmpty_yes rfl)
      subst e1
      have e2 : S ++ ByteArray.empty = S := by
        apply ByteArray.ext
        apply Array.toList_inj.1
        simp
      rw [e2]
      refine (HD1.out W).mono ?_
      rintro x W' ⟨hb, ⟨h, _⟩ | ⟨ed, a3, c3, b3, d3, h, rfl, _⟩⟩
      · cases h
      · exact ⟨hb, _, _, _, _, _, _, _, _, _, rfl⟩
    · have e1 : M = false := by rw [← hM]; exact isEmpty_of_size (by omega)
      subst e1
      have h := decode_any (S ++ s) W (by rw [ByteArray.size_append]; omega)
      have e3 : (S ++ s).data.toList = Ed.enc e ++ s.data.toList := by rw [← hSd]; simp
      have e4 : Ed.decode (S ++ s).data.toList = none := by
        rw [e3]
        unfold Ed.decode
        split
        · rfl
        · exact Ed.dec_more e hR _ (fun h => hu0 (by rw [← length_list, h]; rfl))
      rw [e4] at h
      refine h.mono ?_
      rintro x W' ⟨hb, ⟨_, rfl⟩ | ⟨_, _, _, _, _, h, _⟩⟩
      · exact ⟨hb, _, _, _, _, _, _, 0, 0, 0, rfl⟩
      · cases h)
  have hK0 : (0 : Int) ≤ (K : Int) := by omega
  have hK1 : (K : Int) ≤ (S.size : Int) := by omega
  have HADD : Hid (¬ 9223372036854775807 < S.size + s.size) := Lib.hid (by omega)
  have HA := Lib.hid hA; have HD := Lib.hid hD
  have hsi : ¬ (100 : Int) < s.size := by omega
  have HX : Hid (Ex (w.alloc (.cells #[.slice ao an ac, .slice bo bn bc, .int .u64 (e.log : Nat), .int .u64 (e.seq : Nat), .int .u64 (e.next : Nat)] 29)) w.heap.size (.slice ao an ac) (.slice bo bn bc) e.log e.seq e.next) := Lib.hid (heap_alloc_new _ _)
  have HB : Hid (Below w.heap.size w (w.alloc (.cells #[.slice ao an ac, .slice bo bn bc, .int .u64 (e.log : Nat), .int .u64 (e.seq : Nat), .int .u64 (e.next : Nat)] 29))) := Lib.hid ((Below.refl _ _).alloc (Nat.le_refl _) _)
  have HAN : Hid (an ≤ 1000000000 ∧ bn ≤ 1000000000 ∧ e.add.length = an ∧ e.drop.length = bn) := Lib.hid ⟨by omega, by omega, hal, hdl⟩
  clear hA hD hg hs hI hal hdl h60 h61 hsm hk hen hl hR hdc hSd
  unfold edV
  go_enter Try.func9, Try.ntmps9
  go_wp2_with fail
  refine (HG.out _ (HA.out.below HB.out)).mono ?_
  rintro r w1 ⟨rfl, hb1⟩
  have HB1 : Hid (Below w.heap.size w w1) := Lib.hid (Below.next HB.out hb1)
  have hx1 : Ex w1 w.heap.size (.slice ao an ac) (.slice bo bn bc) e.log e.seq e.next := kept_block HX.out hb1
  have HX1 := Lib.hid hx1
  obtain ⟨c0, c1, c2, c3, c4, cf, clt⟩ := hx1.of
  clear hb1 hx1 HX
  go_wp2_with fail
  refine (HE.out _ (HA.out.below HB1.out) (HD.out.below HB1.out)).mono ?_
  rintro r w2 ⟨rfl, hb2⟩
  have HB2 : Hid (Below w.heap.size w w2) := Lib.hid (Below.next HB1.out hb2)
  have HX2 : Hid (Ex w2 w.heap.size (.slice ao an ac) (.slice bo bn bc) e.log e.seq e.next) := Lib.hid (kept_block HX1.out hb2)
  clear c0 c1 c2 c3 c4 cf clt hb2 HX1
  go_wp2_with fail
  refine (HD1.out _).mono ?_
  rintro r w3 ⟨hb3, hcase⟩
  rcases hcase with ⟨h, _⟩ | ⟨ed, xo, xc, yo, yc, h, rfl, hown, hnm⟩
  · cases h
  · obtain rfl : e = ed := Option.some.inj h
    rw [HAN.out.2.2.1] at hown ⊢
    rw [HAN.out.2.2.2] at hnm ⊢
    have HO := Lib.hid hown.sees; have HN := Lib.hid hnm.sees
    have HB3 : Hid (Below w.heap.size w w3) := Lib.hid (Below.next HB2.out hb3)
    have HX3 : Hid (Ex w3 w.heap.size (.slice ao an ac) (.slice bo bn bc) e.log e.seq e.next) := Lib.hid (kept_block HX2.out hb3)
    clear h hown hnm hb3 HX2
    unfold edV
    go_wp2_with fail
    refine (HD2.out _).mono ?_
    rintro r w4 ⟨rfl, hb4⟩
    clear hKm
    have HB4 : Hid (Below w3.heap.size w3 w4) := Lib.hid (Below.next ((Below.refl _ _).alloc (Nat.le_refl _) _) hb4)
    have HY4 : Hid (Ex w4 w3.heap.size (.slice xo an xc) (.slice yo bn yc) e.log e.seq e.next) := Lib.hid (kept_block (heap_alloc_new w3 _) hb4)
    have HX4 : Hid (Ex w4 w.heap.size (.slice ao an ac) (.slice bo bn bc) e.log e.seq e.next) := Lib.hid (kept_block HX3.out HB4.out)
    clear hb4
    unfold noEd edV
    have hadd := HADD.out
    go_wp2_with fail
    refine (HD3.out _).mono ?_
    rintro r w5 ⟨hb5, a2, l2, k2, b2, m2, j2, g1, g2, g3, rfl⟩
    have HB5 : Hid (Below w4.heap.size w4 w5) := Lib.hid (by first | exact hb5 | exact Below.next ((Below.refl _ _).alloc (Nat.le_refl _) _) hb5)
    clear hb5 hadd
    go_wp2_with fail
    have hY5 : Ex (w5.alloc (.cells #[.slice a2 l2 k2, .slice b2 m2 j2, .int .u64 (g1 : Nat), .int .u64 (g2 : Nat), .int .u64 (g3 : Nat)] 29)) w3.heap.size (.slice xo an xc) (.slice yo bn yc) e.log e.seq e.next := kept_block (kept_block HY4.out HB5.out) ((Below.refl _ _).alloc (Nat.le_refl _) _)
    have hX5 : Ex (w5.alloc (.cells #[.slice a2 l2 k2, .slice b2 m2 j2, .int .u64 (g1 : Nat), .int .u64 (g2 : Nat), .int .u64 (g3 : Nat)] 29)) w.heap.size (.slice ao an ac) (.slice bo bn bc) e.log e.seq e.next := kept_block (kept_block HX4.out HB5.out) ((Below.refl _ _).alloc (Nat.le_refl _) _)
    have hB5 : Below w3.heap.size w3 (w5.alloc (.cells #[.slice a2 l2 k2, .slice b2 m2 j2, .int .u64 (g1 : Nat), .int .u64 (g2 : Nat), .int .u64 (g3 : Nat)] 29)) := Below.next_alloc (Below.next HB4.out HB5.out) _
    generalize w5.alloc (.cells #[.slice a2 l2 k2, .slice b2 m2 j2, .int .u64 (g1 : Nat), .int .u64 (g2 : Nat), .int .u64 (g3 : Nat)] 29) = W5 at *
    have HY5 := Lib.hid hY5; have HX5 := Lib.hid hX5
    have HB53 : Hid (Below w3.heap.size w3 W5.drew) := Lib.hid hB5.drew
    have HB50 : Hid (Below w.heap.size w W5.drew) := Lib.hid (Below.next HB3.out hB5.drew)
    obtain ⟨c0, c1, c2, c3, c4, -, -⟩ := hX5.of
    obtain ⟨d0, d1, d2, d3, d4, -, -⟩ := hY5.of
    have HS5 : Hid (BkS W5 w3.heap.size w.heap.size (.slice xo an xc) (.slice yo bn yc) (.slice ao an ac) (.slice bo bn bc) e.log e.seq e.next) := Lib.hid ⟨d0, d1, d2, d3, d4, c0, c1, c2, c3, c4⟩
    have HK : Hid (∀ v, Below W5.drew.heap.size W5.drew v → BkS v w3.heap.size w.heap.size (.slice xo an xc) (.slice yo bn yc) (.slice ao an ac) (.slice bo bn bc) e.log e.seq e.next) := Lib.hid (fun v hb => BkS.of (w := W5.drew) HY5.out HX5.out hb)
    have HGW : Hid (∀ W, Calls Try.prog 16 #[.agg #[.slice xo an xc, .slice yo bn yc, .int .u64 (e.log : Nat), .int .u64 (e.seq : Nat), .int .u64 (e.next : Nat)]] W (Gives (.agg #[.slice xo an xc, .slice yo bn yc, .int .u64 (e.log : Nat), .int .u64 (e.seq : Nat), .int .u64 (e.next : Nat)]) W)) := Lib.hid (fun W => given_any xo an xc yo bn yc e.log e.seq e.next W)
    have HGB : Hid (∀ W, Calls Try.prog 16 #[.agg #[.slice ao an ac, .slice bo bn bc, .int .u64 (e.log : Nat), .int .u64 (e.seq : Nat), .int .u64 (e.next : Nat)]] W (Gives (.agg #[.slice ao an ac, .slice bo bn bc, .int .u64 (e.log : Nat), .int .u64 (e.seq : Nat), .int .u64 (e.next : Nat)]) W)) := Lib.hid (fun W => given_any ao an ac bo bn bc e.log e.seq e.next W)
    have HSM : Hid (∀ W, Below W5.drew.heap.size W5.drew W → Calls Try.prog 15 #[.agg #[.slice xo an xc, .slice yo bn yc, .int .u64 (e.log : Nat), .int .u64 (e.seq : Nat), .int .u64 (e.next : Nat)], .agg #[.slice ao an ac, .slice bo bn bc, .int .u64 (e.log : Nat), .int .u64 (e.seq : Nat), .int .u64 (e.next : Nat)]] W (Gives (.bool true) W)) := Lib.hid (fun W h => same_yes xo ao an xc ac yo bo bn yc bc e W (HO.out.below (Below.next HB53.out h)) (HN.out.below (Below.next HB53.out h)) (HA.out.below (Below.next HB50.out h)) (HD.out.below (Below.next HB50.out h)) HAN.out.1 HAN.out.2.1)
    have HAW : Hid (∀ W, Calls Try.prog 18 #[] W (Gives (.bool true) W)) := Lib.hid (fun W => awake_any W)
    clear hY5 hX5 hB5 hS0 hKs hS1 hS2 hK0 hK1 HD1 HD2 HD3 HE HG HX3 HY4 HX4 HB4 HB5 HB3 HB2 HB1 hsi hc
    cases M
    all_goals
      go_region_held3 (fun w' => BkS w' w3.heap.size w.heap.size (.slice xo an xc) (.slice yo bn yc) (.slice ao an ac) (.slice bo bn bc) e.log e.seq e.next)
        (first
          | exact HS5.out
          | go_keep
          | exact HK.out _ (Below.next (Below.next (Below.next hb6 hb7) hb8) hb9)
          | exact HK.out _ (Below.next (Below.next hb6 hb7) hb8)
          | exact HK.out _ (Below.next hb6 hb7)
          | exact HK.out _ hb6)
        (first
          | (go_at_call 16; (with_reducible refine (HGW.out _).mono ?_); rintro r w6 ⟨rfl, hb6⟩)
          | (go_at_call 16; (with_reducible refine (HGB.out _).mono ?_); rintro r w7 ⟨rfl, hb7⟩)
          | (go_at_call 15; (with_reducible refine (HSM.out _ (Below.next hb6 hb7)).mono ?_); rintro r w8 ⟨rfl, hb8⟩)
          | (go_at_call 18; (with_reducible refine (HAW.out _).mono ?_); rintro r w9 ⟨rfl, hb9⟩))
      all_goals
        have HB9 : Hid (Below w.heap.size w w9) := Lib.hid (Below.next HB50.out (Below.next (Below.next (Below.next hb6 hb7) hb8) hb9))
        clear hb6 hb7 hb8 hb9
        go_wp2_with fail
        go_ret
        exact ⟨rfl, HB9.out⟩

theorem back_walk (ao : Option Addr) (an ac : Nat) (bo : Option Addr) (bn bc : Nat) (e : Edt) (cut : Int) (s : ByteArray) (w : World) (hA : SeesTb w (.slice ao an ac) e.add) (hD : SeesU w (.slice bo bn bc) e.drop) (hI : Ed.In e) (hT : ∀ t ∈ e.add, TbShort t) (hc : 0 ≤ cut ∧ cut ≤ 65535) (hs : s.size ≤ 9223372036854775807) :
    Calls Try.prog 9 #[edV ao an ac bo bn bc e.log e.seq e.next, .int .u16 cut, .string s] w (Gives (.bool true) w) := by
  by_cases hg : greatE e.add e.drop = true ∨ 100 < s.size
  · exact back_great ao an ac bo bn bc e cut s w hA hD hg hs
  · have hg1 : greatE e.add e.drop = false := by
      cases h : greatE e.add e.drop with
      | true => exact absurd (Or.inl h) hg
      | false => rfl
    have hg2 : ¬ 100 < s.size := fun h => hg (Or.inr h)
    obtain ⟨h60, h61, hsm⟩ := greatE_no hg1
    rcases encode_cases e h60 h61 hI with ⟨hk, hen, hl⟩ | ⟨hk, hen⟩
    · exact back_yes ao an ac bo bn bc e cut s w hA hD hg1 hg2 hI hc hk hen hl
    · exact back_no ao an ac bo bn bc e cut s w hA hD hg1 hg2 hI hk hen

end Go.Proofs.Ytlhokfildhcdhaa
