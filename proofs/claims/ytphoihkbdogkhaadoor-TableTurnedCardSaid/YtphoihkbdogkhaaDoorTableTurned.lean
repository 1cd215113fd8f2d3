/- The walk of TableTurned. -/
import Derived.Test.YtphoihkbdogkhaaDoorPk16
import Derived.Test.YtphoihkbdogkhaaDoorPk12
namespace Go.Proofs.YtphoihkbdogkhaaDoor.Bn.Tw
open Go Go.RowKit Go.Proofs.YtphoihkbdogkhaaDoor.Tb
open Go.Proofs.YtphoihkbdogkhaaDoor.Bn.Bo (Turns cell_of heap_lt)
set_option linter.unusedVariables false
set_option maxRecDepth 100000

theorem great_no {l : List Ent} (h : greatE l = false) : l.length ≤ 100 := by
  unfold greatE greatK at h
  simp only [Bool.or_eq_false_iff, decide_eq_false_iff_not, List.length_map] at h
  omega
theorem told_shape (A : List Ent) : ∃ (t0 : Nat) (t1 t2 t3 : Int) (t4 t5 : ByteArray) (t6 t7 : Nat), toldT A = .agg #[.int .u64 (t0 : Int), .int .i64 t1, .int .i64 t2, .int .i64 t3, .string t4, .string t5, .int .u64 (t6 : Int), .int .u64 (t7 : Int)] := by
  unfold toldT
  split
  · exact ⟨0, 0, 0, 0, ⟨#[]⟩, ⟨#[]⟩, 0, 0, rfl⟩
  · exact ⟨_, _, _, _, _, _, _, _, rfl⟩
theorem bytes_new (w : World) (s : ByteArray) :
    ∃ (c : Nat) (w' : World), (convert 9 34 (.string s)).run Tryd.prog w = .ok (.slice (some ⟨w.heap.size, 0, none⟩) s.size c) w' ∧ Row w' w.heap.size s.data.toList ∧ w.heap.size < w'.heap.size ∧ Below w.heap.size w w' :=
  ⟨_, _, run_bytes_of_string (P := Tryd.prog) w 9 34 5 s Tryd.underlying9 Tryd.underlying34 Tryd.underlying5, row_new w.drew s _ _, by simp, ((Below.refl w.heap.size w).drew).alloc (Nat.le_refl _) _⟩

theorem xor_bytes (a b : UInt8) : bits .xor .u8 (a.toNat : Int) (b.toNat : Int) = ((a ^^^ b).toNat : Int) := by
  rw [u8_xor_nat _ _ a.toNat_lt b.toNat_lt, UInt8.toNat_xor]
theorem xor_ne (a b : UInt8) : (a ^^^ b = a) ↔ b = 0 := by
  constructor
  · intro h
    have h2 : a ^^^ (a ^^^ b) = a ^^^ a := by rw [h]
    rw [← UInt8.xor_assoc, UInt8.xor_self, UInt8.zero_xor] at h2
    exact h2
  · intro h
    rw [h, UInt8.xor_zero]
set_option maxHeartbeats 4000000 in
theorem turned_walk (a : Option Addr) (n c : Nat) (l : List Ent) (at' : Nat) (by' : UInt8) (w : World) (h : SeesI w (.slice a n c) l) (hat : at' < 65536) (hT : Tab w) :
    Calls Tryd.prog 7 #[.slice a n c, .int .u16 (at' : Int), .int .u8 (by'.toNat : Int)] w (Gives (.bool true) w) := by
  have HAW : Hid (∀ W, Below w.heap.size w W → Calls Tryd.prog 17 #[] W (Gives (.bool true) W)) := Lib.hid (fun W hb => awake_any W (hT.below hb))
  have HGR := Lib.hid (greatEntries_any a n c l w h)
  have HH := Lib.hid h; have HT := Lib.hid hT
  have HLN := Lib.hid h.len
  clear h hT
  go_enter Tryd.func7, Tryd.ntmps7
  cases hg : greatE l with
  | true =>
    rw [hg] at HGR
    go_wp2_with fail
    refine HGR.out.mono ?_
    rintro r w1 ⟨rfl, hb1⟩
    have HB1 := Lib.hid hb1
    clear hb1
    go_wp2_with fail
    refine (HAW.out _ HB1.out).mono ?_
    rintro r w2 ⟨rfl, hb2⟩
    have HB2 := Lib.hid (nx HB1.out hb2)
    clear hb2
    go_wp2_with fail
    go_ret
    exact ⟨rfl, HB2.out⟩
  | false =>
    rw [hg] at HGR
    have hln := great_no hg
    have hn100 : n ≤ 100 := by have := HLN.out; omega
    clear hg
    go_wp2_with fail
    refine HGR.out.mono ?_
    rintro r w1 ⟨rfl, hb1⟩
    have HB1 := Lib.hid hb1
    have HTK := Lib.hid (taken_any (HH.out.below hb1) hn100 (HT.out.below hb1))
    clear hb1
    obtain ⟨hinv, hgood⟩ := took_inv 3 1 l
    have hal := took_len l (TS.new 3 1)
    generalize took (TS.new 3 1) l = A at *
    have hA100 : A.length ≤ 100 := by omega
    have HGD := Lib.hid hgood
    clear hinv hgood hal
    go_wp2_with fail
    refine HTK.out.mono ?_
    rintro r w2 ⟨v, rfl, ho, hb2⟩
    have HB2 := Lib.hid (nx HB1.out hb2)
    clear hb2 ho
    by_cases hA : A = []
    · have e1 : (if A = [] then ([] : List UInt8) else whole A) = [] := if_pos hA
      have e2 : (if A = [] then (9 : Int) else 0) = 9 := if_pos hA
      rw [e1, e2, show bmk [] = ⟨#[]⟩ from rfl]
      obtain ⟨t0, t1, t2, t3, t4, t5, t6, t7, ht⟩ := told_shape A
      rw [ht]
      clear ht
      clear e1 e2
      have HB3 : Hid (Below w.heap.size w (w2.alloc (.cells #[.int .u64 (t0 : Int), .int .i64 t1, .int .i64 t2, .int .i64 t3, .string t4, .string t5, .int .u64 (t6 : Int), .int .u64 (t7 : Int)] 26))) := Lib.hid (HB2.out.alloc HB2.out.size _)
      go_wp2_with fail
      refine (HAW.out _ HB3.out).mono ?_
      rintro r w4 ⟨rfl, hb4⟩
      have HB4 := Lib.hid (nx HB3.out hb4)
      clear hb4
      go_wp2_with fail
      go_ret
      exact ⟨rfl, HB4.out⟩
    · have e1 : (if A = [] then ([] : List UInt8) else whole A) = whole A := if_neg hA
      have e2 : (if A = [] then (9 : Int) else 0) = 0 := if_neg hA
      rw [e1, e2]
      obtain ⟨t0, t1, t2, t3, t4, t5, t6, t7, ht⟩ := told_shape A
      rw [ht]
      clear ht
      clear e1 e2
      have hwl := whole_le HGD.out hA100
      have hwn : (whole A) ≠ [] := whole_ne A
      have HOP := Lib.hid (fun (s : List UInt8) (hs : s.length ≤ 100000) W (hb : Below w.heap.size w W) => open_any (bmk s) W (by rw [bmk_size]; exact hs) (HT.out.below hb))
      have HOG := Lib.hid (fun W (hb : Below w.heap.size w W) => open_good HGD.out hA hA100 W (HT.out.below hb))
      have HTU := Lib.hid (fun k (hk : k < (whole A).length) b (hb : b ≠ (whole A)[k]) => Tb.turned HGD.out k hk b hb)
      obtain ⟨S, hS⟩ : ∃ S, S = bmk (whole A) := ⟨_, rfl⟩
      have hSl : S.data.toList = whole A := by rw [hS]; rfl
      have hsz : 0 < S.size := by
        have : 0 < (whole A).length := List.length_pos_iff.2 hwn
        rw [hS, bmk_size]; exact this
      have hsz2 : S.size ≤ 100000 := by rw [hS, bmk_size]; exact hwl
      rw [← hS]
      have HSL := Lib.hid hSl; have HS := Lib.hid hS
      have HB3 : Hid (Below w.heap.size w (w2.alloc (.cells #[.int .u64 (t0 : Int), .int .i64 t1, .int .i64 t2, .int .i64 t3, .string t4, .string t5, .int .u64 (t6 : Int), .int .u64 (t7 : Int)] 26))) := Lib.hid (HB2.out.alloc HB2.out.size _)
      clear hwl hwn hS hSl
      have hne : ¬ ((S.size : Int) = 0) := by omega
      obtain ⟨c1, w4, hcv, hrow, hz4, hb4⟩ := bytes_new (w2.alloc (.cells #[.int .u64 (t0 : Int), .int .i64 t1, .int .i64 t2, .int .i64 t3, .string t4, .string t5, .int .u64 (t6 : Int), .int .u64 (t7 : Int)] 26)) S
      have HROW := Lib.hid hrow
      have HB4 := Lib.hid (nx HB3.out hb4)
      have hz3 : w2.heap.size + 1 = (w2.alloc (.cells #[.int .u64 (t0 : Int), .int .i64 t1, .int .i64 t2, .int .i64 t3, .string t4, .string t5, .int .u64 (t6 : Int), .int .u64 (t7 : Int)] 26)).heap.size := by simp
      obtain ⟨B, hB⟩ : ∃ B, B = (w2.alloc (.cells #[.int .u64 (t0 : Int), .int .i64 t1, .int .i64 t2, .int .i64 t3, .string t4, .string t5, .int .u64 (t6 : Int), .int .u64 (t7 : Int)] 26)).heap.size := ⟨_, rfl⟩
      rw [← hB] at hcv hz4 HROW hz3
      have hBw : w.heap.size ≤ B := by have := HB2.out.size; omega
      clear hrow hb4 hB hz3
      obtain ⟨K, hK⟩ : ∃ K, K = at' % S.size := ⟨_, rfl⟩
      have hKl : K < S.size := by rw [hK]; exact Nat.mod_lt _ hsz
      have hm1 : (at' : Int) % (S.size : Int) = (K : Int) := by rw [hK]; omega
      have hm2 : Int.tmod (at' : Int) (S.size : Int) = (K : Int) := by rw [hK]; exact (Int.ofNat_tmod at' S.size).symm
      have hKs : K < S.data.toList.length := by simpa using hKl
      obtain ⟨r0, r1⟩ := HROW.out K hKs
      have HXO := Lib.hid (xor_bytes S.data.toList[K] by')
      obtain ⟨X, hX⟩ : ∃ X, X = S.data.toList[K] := ⟨_, rfl⟩
      rw [← hX] at r0 HXO
      have HXX := Lib.hid hX
      have hxo := HXO.out
      clear hK hX
      obtain ⟨L, hL⟩ : ∃ L, L = S.data.toList.set K (X ^^^ by') := ⟨_, rfl⟩
      have hLl : L.length = S.size := by rw [hL, List.length_set]; simp
      have hst := HROW.out.set K (X ^^^ by')
      rw [← hL, UInt8.toNat_xor] at hst
      have htx := hst.text c1
      rw [hLl] at htx
      have HB5 : Hid (Below w.heap.size w (w4.setCell ⟨B, K, none⟩ (.int .u8 ((X.toNat ^^^ by'.toNat : Nat) : Int)))) := Lib.hid (HB4.out.setCell hBw _)
      have HLL := Lib.hid hLl
      have HBM : Hid ((⟨L.toArray⟩ : ByteArray) = bmk L) := Lib.hid rfl
      have HLE : Hid (L = (whole A).set K (X ^^^ by')) := Lib.hid (by rw [hL, HSL.out])
      clear hst hLl hL HROW HXO
      rw [HBM.out] at htx
      by_cases hb0 : by' = 0
      · have HL0 : Hid (bmk L = bmk (whole A)) := Lib.hid (by
          rw [HLE.out, hb0, UInt8.xor_zero, HXX.out]
          congr 1
          have e : S.data.toList[K] = (whole A)[K]'(by rw [← HSL.out]; exact hKs) := by simp only [HSL.out]
          rw [e, List.set_getElem_self])
        rw [HL0.out] at htx
        have HB0 : Hid (((by'.toNat : Nat) : Int) = 0) := Lib.hid (by rw [hb0]; rfl)
        clear hb0
        go_wp2_with fail
        refine (HOG.out _ HB5.out).mono ?_
        rintro r w6 ⟨hb6, p, f, ix, bv, bl, rfl, -, -⟩
        have HB6 := Lib.hid (nx HB5.out hb6)
        clear hb6 r0 r1 htx
        have hb00 := HB0.out
        generalize ((by'.toNat : Nat) : Int) = Y at *
        go_wp2_with fail
        refine (HAW.out _ HB6.out).mono ?_
        rintro r w7 ⟨rfl, hb7⟩
        have HB7 := Lib.hid (nx HB6.out hb7)
        clear hb7
        go_wp2_with fail
        go_ret
        exact ⟨rfl, HB7.out⟩
      · have HOL : Hid (openT (bmk L).data.toList = none) := Lib.hid (by
          have e : (bmk L).data.toList = L := rfl
          rw [e, HLE.out]
          refine HTU.out K (by rw [← HSL.out]; exact hKs) _ (fun hc => hb0 ?_)
          have e2 : X = (whole A)[K]'(by rw [← HSL.out]; exact hKs) := by rw [HXX.out]; simp only [HSL.out]
          rw [← e2] at hc
          exact (xor_ne X by').1 hc)
        have HB0 : Hid (¬ (((by'.toNat : Nat) : Int) = 0)) := Lib.hid (fun hc => hb0 (UInt8.toNat_inj.1 (show by'.toNat = UInt8.toNat 0 from (by omega : by'.toNat = 0))))
        have HOP2 := Lib.hid (HOP.out L (by rw [HLL.out]; exact hsz2) _ HB5.out)
        rw [HOL.out] at HOP2
        clear hb0
        go_wp2_with fail
        refine HOP2.out.mono ?_
        rintro r w6 ⟨hb6, rfl⟩
        have HB6 := Lib.hid (nx HB5.out hb6)
        clear hb6 r0 r1 htx
        have hb00 := HB0.out
        generalize ((by'.toNat : Nat) : Int) = Y at *
        have hY : (Y == 0) = false := by simpa using hb00
        go_wp2_with fail
        refine (HAW.out _ HB6.out).mono ?_
        rintro r w7 ⟨rfl, hb7⟩
        have HB7 := Lib.hid (nx HB6.out hb7)
        clear hb7
        go_wp2_with fail
        go_ret
        exact ⟨rfl, HB7.out⟩
theorem turned_card (a : Option Addr) (n c : Nat) (l : List Ent) (at' by' : Int) (w : World) (hT : Tab w) (h : SeesI w (.slice a n c) l) (h1 : 0 ≤ at' ∧ at' ≤ 65535) (h2 : 0 ≤ by' ∧ by' ≤ 255) :
    Calls Tryd.prog 7 #[.slice a n c, .int .u16 at', .int .u8 by'] w (Gives (.bool true) w) := by
  obtain ⟨m, rfl⟩ : ∃ m : Nat, at' = m := ⟨at'.toNat, by omega⟩
  obtain ⟨b, rfl⟩ : ∃ b : UInt8, by' = (b.toNat : Int) := ⟨UInt8.ofNat by'.toNat, by rw [UInt8.toNat_ofNat']; omega⟩
  exact turned_walk a n c l m b w h (by omega) hT
end Go.Proofs.YtphoihkbdogkhaaDoor.Bn.Tw
