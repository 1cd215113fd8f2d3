/- The document's own answers for layer 13: Var, May. -/
import Derived.Test.YtlhokfildhcdhaaEdN
namespace Go.Proofs.Ytlhokfildhcdhaa
open Go.RowKit Sk
set_option linter.unusedVariables false

set_option maxHeartbeats 800000 in
theorem refVar_any (ao : Option Addr) (len cap : Nat) (ns : List Nat) (w : World) (hV : SeesU w (.slice ao len cap) ns) (hn : ∀ i, ns.getD i 0 < 18446744073709551616) (hl : len ≤ 100000000) :
    Calls Try.prog 40 #[.slice ao len cap] w (Gives (.string ⟨(varl ns).toArray⟩) w) := by
  obtain ⟨hlen, b, off, hcell⟩ := hV.get
  have HC := Lib.hid hcell; have HN := Lib.hid hn; have HLEN := Lib.hid hlen; clear hcell hn hlen hV
  have HL := Lib.hid hl
  go_enter Try.func40, Try.ntmps40
  go_wp2_with fail
  go_loopw [3, 4] (fun u i wr => ∃ (k : Nat) (S : ByteArray), k ≤ len ∧ i = .int .i64 k ∧ u = .string S ∧ S = ⟨(varl (ns.take k)).toArray⟩ ∧ Below w.heap.size w wr) (fun _ i _ => len - (intOf i).toNat)
  case atStart => exact ⟨0, _, Nat.zero_le _, rfl, rfl, by simp [varl], Below.refl _ _⟩
  case round =>
    obtain ⟨k, S, hk, rfl, rfl, hS, hbel⟩ := hrel
    have hSs : S.size ≤ 900000000 := by
      have h1 := varl_length (ns.take k)
      have h2 : (ns.take k).length ≤ k := List.length_take_le ..
      have h3 := HL.out
      rw [hS]
      show (varl (ns.take k)).length ≤ _
      omega
    have HS := Lib.hid hS; have HB := Lib.hid hbel; clear hS hbel
    by_cases hlt : k < len
    · obtain ⟨rfl, hbl, hcl⟩ := HC.out k hlt
      have hcell : wr.cell? ⟨b, off + k, none⟩ = some (.int .u64 (ns.getD k 0 : Nat)) := (HB.out.cell (p := ⟨b, off + k, none⟩) hbl).trans hcl
      have HV : Hid (varl (ns.take (k + 1)) = varl (ns.take k) ++ Nm.row (ns.getD k 0)) := varl_snoc ns k (by rw [HLEN.out]; exact hlt)
      have HX : Hid (ns.getD k 0 < 18446744073709551616) := HN.out k
      clear hcl
      generalize ns.getD k 0 = x at *
      have hr := (Nm.row_length x).2
      go_wp2_with fail
      refine (refRow_any _ _ (by omega) (by have := HX.out; omega)).mono ?_
      rintro e w1 ⟨rfl, hb1⟩
      rw [Int.toNat_natCast]
      have hadd : ¬ 9223372036854775807 < S.size + (Nm.row x).length := by omega
      go_wp2_with fail
      go_roundw
      case rel => exact ⟨k + 1, _, by omega, by go_num, rfl, by rw [HV.out, HS.out]; exact mk_app _ _, Below.next HB.out hb1⟩
      case measure => simp [intOf]; omega
    · go_wp2_with fail
      go_ret
      have : ns.take k = ns := List.take_of_length_le (by rw [HLEN.out]; omega)
      rw [HS.out, this]
      exact ⟨rfl, HB.out⟩

set_option maxRecDepth 100000 in
set_option maxHeartbeats 16000000 in
theorem may_any (ao : Option Addr) (an ac : Nat) (bo : Option Addr) (bn bc : Nat) (e : Edt) (w : World) (hA : SeesTb w (.slice ao an ac) e.add) (hD : SeesU w (.slice bo bn bc) e.drop) (hla : an ≤ 1000000000) (hlb : bn ≤ 1000000000) :
    Calls Try.prog 21 #[edV ao an ac bo bn bc e.log e.seq e.next] w (Gives (.bool (decide (Ed.chk e.add e.drop = 0))) w) := by
  obtain ⟨hal, ba, oa, hac⟩ := hA.get
  obtain ⟨hdl, bd, od, hdc⟩ := hD.get
  have HAC := Lib.hid hac; have HAL := Lib.hid hal; have HDC := Lib.hid hdc; have HDL := Lib.hid hdl
  have HE : Hid (Ed.chk e.add e.drop = if (e.add.all Ed.tbOk && e.drop.all Ed.numOk) = true then 0 else 1) := Lib.hid rfl
  have HB : Hid (Below w.heap.size w (w.alloc (.cells #[.slice ao an ac, .slice bo bn bc, .int .u64 (e.log : Nat), .int .u64 (e.seq : Nat), .int .u64 (e.next : Nat)] 38))) := Lib.hid ((Below.refl _ _).alloc (Nat.le_refl _) _)
  have hd0 : (w.alloc (.cells #[Value.slice ao an ac, .slice bo bn bc, .int .u64 (e.log : Nat), .int .u64 (e.seq : Nat), .int .u64 (e.next : Nat)] 38)).cell? ⟨w.heap.size, 0, none⟩ = some (.slice ao an ac) := by rw [World.cell?_alloc_new]; rfl
  have hd1 : (w.alloc (.cells #[Value.slice ao an ac, .slice bo bn bc, .int .u64 (e.log : Nat), .int .u64 (e.seq : Nat), .int .u64 (e.next : Nat)] 38)).cell? ⟨w.heap.size, 1, none⟩ = some (.slice bo bn bc) := by rw [World.cell?_alloc_new]; rfl
  have hsz0 : w.heap.size < (w.alloc (.cells #[Value.slice ao an ac, .slice bo bn bc, .int .u64 (e.log : Nat), .int .u64 (e.seq : Nat), .int .u64 (e.next : Nat)] 38)).heap.size := by simp
  clear hac hdc hal hdl hA hD
  unfold edV
  go_enter Try.func21, Try.ntmps21
  go_wp2_with fail
  generalize w.alloc (.cells #[Value.slice ao an ac, .slice bo bn bc, .int .u64 (e.log : Nat), .int .u64 (e.seq : Nat), .int .u64 (e.next : Nat)] 38) = W at *
  go_loopw [3] (fun i wr => ∃ k : Nat, k ≤ an ∧ i = .int .i64 k ∧ (∀ j, j < k → Ed.tbOk (e.add.getD j tbd) = true) ∧ wr.cell? ⟨w.heap.size, 0, none⟩ = some (.slice ao an ac) ∧ wr.cell? ⟨w.heap.size, 1, none⟩ = some (.slice bo bn bc) ∧ Below w.heap.size w wr ∧ w.heap.size < wr.heap.size) (fun i _ => an - (intOf i).toNat)
  case atStart => exact ⟨0, Nat.zero_le _, rfl, fun j hj => by omega, hd0, hd1, HB.out, hsz0⟩
  case round =>
    obtain ⟨k, hk, rfl, hyes, hp, hq, hbel, hsl⟩ := hrel
    clear hd0 hd1
    have HY := Lib.hid hyes; clear hyes
    have hsz := hbel.size
    by_cases hlt : k < an
    · obtain ⟨rfl, hbl, hob⟩ := HAC.out k hlt
      obtain ⟨c0, c1, c2, c3, c4, c5, c6, c7⟩ := hob.below hbel hbl
      have hbr : ba < wr.heap.size := by omega
      have HKL : Hid (k < e.add.length) := Lib.hid (by rw [HAL.out]; exact hlt)
      clear hob
      generalize hx : e.add.getD k tbd = x at *
      have HX := Lib.hid hx; clear hx
      have HBV : Hid (∀ o, Below w.heap.size w (wr.alloc o)) := Lib.hid (fun o => Below.next_alloc hbel o)
      by_cases h0 : x.n < 1
      · have hno : Ed.tbOk x = false := by
          cases h : Ed.tbOk x with
          | false => rfl
          | true =>
            obtain ⟨b1, b2, b3, b4, b5, b6, b7, b8, b9, b10⟩ := (Ed.tbOk_iff x).1 h
            omega
        have HZ : Hid (Ed.chk e.add e.drop = 1) := Lib.hid (by rw [HE.out, all_no HKL.out (by rw [HX.out]; exact hno)]; simp)
        clear hno
        have g0 : (x.n : Int) < 1 := by omega
        go_wp2_with fail
        go_ret
        rw [HZ.out]
        exact ⟨rfl, HBV.out _⟩
      · have g0 : ¬ (x.n : Int) < 1 := by omega
        by_cases h1 : 1099511627776 < x.n
        · have hno : Ed.tbOk x = false := by
            cases h : Ed.tbOk x with
            | false => rfl
            | true =>
              obtain ⟨b1, b2, b3, b4, b5, b6, b7, b8, b9, b10⟩ := (Ed.tbOk_iff x).1 h
              omega
          have HZ : Hid (Ed.chk e.add e.drop = 1) := Lib.hid (by rw [HE.out, all_no HKL.out (by rw [HX.out]; exact hno)]; simp)
          clear hno
          have g1 : (1099511627776 : Int) < x.n := by omega
          go_wp2_with fail
          go_ret
          rw [HZ.out]
          exact ⟨rfl, HBV.out _⟩
        · have g1 : ¬ (1099511627776 : Int) < x.n := by omega
          by_cases h2 : x.level < 0
          · have hno : Ed.tbOk x = false := by
              cases h : Ed.tbOk x with
              | false => rfl
              | true =>
                obtain ⟨b1, b2, b3, b4, b5, b6, b7, b8, b9, b10⟩ := (Ed.tbOk_iff x).1 h
                omega
            have HZ : Hid (Ed.chk e.add e.drop = 1) := Lib.hid (by rw [HE.out, all_no HKL.out (by rw [HX.out]; exact hno)]; simp)
            clear hno
            go_wp2_with fail
            go_ret
            rw [HZ.out]
            exact ⟨rfl, HBV.out _⟩
          · skip
            by_cases h3 : 3 < x.level
            · have hno : Ed.tbOk x = false := by
                cases h : Ed.tbOk x with
                | false => rfl
                | true =>
                  obtain ⟨b1, b2, b3, b4, b5, b6, b7, b8, b9, b10⟩ := (Ed.tbOk_iff x).1 h
                  omega
              have HZ : Hid (Ed.chk e.add e.drop = 1) := Lib.hid (by rw [HE.out, all_no HKL.out (by rw [HX.out]; exact hno)]; simp)
              clear hno
              go_wp2_with fail
              go_ret
              rw [HZ.out]
              exact ⟨rfl, HBV.out _⟩
            · skip
              by_cases h4 : x.count < 1
              · have hno : Ed.tbOk x = false := by
                  cases h : Ed.tbOk x with
                  | false => rfl
                  | true =>
                    obtain ⟨b1, b2, b3, b4, b5, b6, b7, b8, b9, b10⟩ := (Ed.tbOk_iff x).1 h
                    omega
                have HZ : Hid (Ed.chk e.add e.drop = 1) := Lib.hid (by rw [HE.out, all_no HKL.out (by rw [HX.out]; exact hno)]; simp)
                clear hno
                go_wp2_with fail
                go_ret
                rw [HZ.out]
                exact ⟨rfl, HBV.out _⟩
              · skip
                by_cases h5 : x.size < 1
                · have hno : Ed.tbOk x = false := by
                    cases h : Ed.tbOk x with
                    | false => rfl
                    | true =>
                      obtain ⟨b1, b2, b3, b4, b5, b6, b7, b8, b9, b10⟩ := (Ed.tbOk_iff x).1 h
                      omega
                  have HZ : Hid (Ed.chk e.add e.drop = 1) := Lib.hid (by rw [HE.out, all_no HKL.out (by rw [HX.out]; exact hno)]; simp)
                  clear hno
                  go_wp2_with fail
                  go_ret
                  rw [HZ.out]
                  exact ⟨rfl, HBV.out _⟩
                · skip
                  by_cases h6 : x.first.size < 1
                  · have hno : Ed.tbOk x = false := by
                      cases h : Ed.tbOk x with
                      | false => rfl
                      | true =>
                        obtain ⟨b1, b2, b3, b4, b5, b6, b7, b8, b9, b10⟩ := (Ed.tbOk_iff x).1 h
                        omega
                    have HZ : Hid (Ed.chk e.add e.drop = 1) := Lib.hid (by rw [HE.out, all_no HKL.out (by rw [HX.out]; exact hno)]; simp)
                    clear hno
                    have g6 : (x.first.size : Int) < 1 := by omega
                    go_wp2_with fail
                    go_ret
                    rw [HZ.out]
                    exact ⟨rfl, HBV.out _⟩
                  · have g6 : ¬ (x.first.size : Int) < 1 := by omega
                    by_cases h7 : 64 < x.first.size
                    · have hno : Ed.tbOk x = false := by
                        cases h : Ed.tbOk x with
                        | false => rfl
                        | true =>
                          obtain ⟨b1, b2, b3, b4, b5, b6, b7, b8, b9, b10⟩ := (Ed.tbOk_iff x).1 h
                          omega
                      have HZ : Hid (Ed.chk e.add e.drop = 1) := Lib.hid (by rw [HE.out, all_no HKL.out (by rw [HX.out]; exact hno)]; simp)
                      clear hno
                      have g7 : (64 : Int) < x.first.size := by omega
                      go_wp2_with fail
                      go_ret
                      rw [HZ.out]
                      exact ⟨rfl, HBV.out _⟩
                    · have g7 : ¬ (64 : Int) < x.first.size := by omega
                      by_cases h8 : x.last.size < 1
                      · have hno : Ed.tbOk x = false := by
                          cases h : Ed.tbOk x with
                          | false => rfl
                          | true =>
                            obtain ⟨b1, b2, b3, b4, b5, b6, b7, b8, b9, b10⟩ := (Ed.tbOk_iff x).1 h
                            omega
                        have HZ : Hid (Ed.chk e.add e.drop = 1) := Lib.hid (by rw [HE.out, all_no HKL.out (by rw [HX.out]; exact hno)]; simp)
                        clear hno
                        have g8 : (x.last.size : Int) < 1 := by omega
                        go_wp2_with fail
                        go_ret
                        rw [HZ.out]
                        exact ⟨rfl, HBV.out _⟩
                      · have g8 : ¬ (x.last.size : Int) < 1 := by omega
                        by_cases h9 : 64 < x.last.size
                        · have hno : Ed.tbOk x = false := by
                            cases h : Ed.tbOk x with
                            | false => rfl
                            | true =>
                              obtain ⟨b1, b2, b3, b4, b5, b6, b7, b8, b9, b10⟩ := (Ed.tbOk_iff x).1 h
                              omega
                          have HZ : Hid (Ed.chk e.add e.drop = 1) := Lib.hid (by rw [HE.out, all_no HKL.out (by rw [HX.out]; exact hno)]; simp)
                          clear hno
                          have g9 : (64 : Int) < x.last.size := by omega
                          go_wp2_with fail
                          go_ret
                          rw [HZ.out]
                          exact ⟨rfl, HBV.out _⟩
                        · have g9 : ¬ (64 : Int) < x.last.size := by omega
                          by_cases h10 : Op.bytesLess x.last.data.toList x.first.data.toList = true
                          · have hno : Ed.tbOk x = false := by
                              cases h : Ed.tbOk x with
                              | false => rfl
                              | true =>
                                obtain ⟨b1, b2, b3, b4, b5, b6, b7, b8, b9, b10⟩ := (Ed.tbOk_iff x).1 h
                                rw [h10] at b8; cases b8
                            have HZ : Hid (Ed.chk e.add e.drop = 1) := Lib.hid (by rw [HE.out, all_no HKL.out (by rw [HX.out]; exact hno)]; simp)
                            clear hno
                            obtain ⟨g10, g10b⟩ := Bo.bl_leq h10
                            go_wp2_with fail
                            go_ret
                            rw [HZ.out]
                            exact ⟨rfl, HBV.out _⟩
                          · skip
                            by_cases h11 : x.least = 0
                            · have hno : Ed.tbOk x = false := by
                                cases h : Ed.tbOk x with
                                | false => rfl
                                | true =>
                                  obtain ⟨b1, b2, b3, b4, b5, b6, b7, b8, b9, b10⟩ := (Ed.tbOk_iff x).1 h
                                  omega
                              have HZ : Hid (Ed.chk e.add e.drop = 1) := Lib.hid (by rw [HE.out, all_no HKL.out (by rw [HX.out]; exact hno)]; simp)
                              clear hno
                              have g11 : (x.least : Int) = 0 := by omega
                              rcases Bo.bl_geq (by simpa using h10) with g10 | ⟨g10, g10b⟩
                              all_goals
                                go_wp2_with fail
                                go_ret
                                rw [HZ.out]
                                exact ⟨rfl, HBV.out _⟩
                            · have g11 : ¬ (x.least : Int) = 0 := by omega
                              by_cases h12 : x.most < x.least
                              · have hno : Ed.tbOk x = false := by
                                  cases h : Ed.tbOk x with
                                  | false => rfl
                                  | true =>
                                    obtain ⟨b1, b2, b3, b4, b5, b6, b7, b8, b9, b10⟩ := (Ed.tbOk_iff x).1 h
                                    omega
                                have HZ : Hid (Ed.chk e.add e.drop = 1) := Lib.hid (by rw [HE.out, all_no HKL.out (by rw [HX.out]; exact hno)]; simp)
                                clear hno
                                have g12 : (x.most : Int) < x.least := by omega
                                rcases Bo.bl_geq (by simpa using h10) with g10 | ⟨g10, g10b⟩
                                all_goals
                                  go_wp2_with fail
                                  go_ret
                                  rw [HZ.out]
                                  exact ⟨rfl, HBV.out _⟩
                              · have g12 : ¬ (x.most : Int) < x.least := by omega
                                have hok : Ed.tbOk x = true := (Ed.tbOk_iff x).2 ⟨by omega, by omega, by omega, by omega, by omega, by omega, by omega, by simpa using h10, by omega, by omega⟩
                                rcases Bo.bl_geq (by simpa using h10) with g10 | ⟨g10, g10b⟩
                                all_goals
                                  go_wp2_with fail
                                  go_roundw
                                  case rel =>
                                    refine ⟨k + 1, by omega, by go_num, fun j hj => ?_, (by rw [World.cell?_alloc_past _ _ _ hsl]; exact hp), (by rw [World.cell?_alloc_past _ _ _ hsl]; exact hq), HBV.out _, by simp; omega⟩
                                    by_cases e : j = k
                                    · rw [e, HX.out]; exact hok
                                    · exact HY.out j (by omega)
                                  case measure => simp [intOf]; omega
    · have HA : Hid (e.add.all Ed.tbOk = true) := Lib.hid (all_yes (fun j hj => HY.out j (by rw [HAL.out] at hj; omega)))
      clear HE HY HAC
      have HE : Hid (Ed.chk e.add e.drop = if (e.drop.all Ed.numOk) = true then 0 else 1) := Lib.hid (by unfold Ed.chk; rw [HA.out, Bool.true_and])
      have HBW := Lib.hid hbel
      clear hbel HA
      go_wp2_with fail
      go_loopw [5] (fun i w2 => ∃ k : Nat, k ≤ bn ∧ i = .int .i64 k ∧ (∀ j, j < k → Ed.numOk (e.drop.getD j 0) = true) ∧ w2 = wr) (fun i _ => bn - (intOf i).toNat)
      case atStart => exact ⟨0, Nat.zero_le _, rfl, fun j hj => by omega, rfl⟩
      case round =>
        obtain ⟨m, hm, rfl, hyes, rfl⟩ := hrel
        have HY := Lib.hid hyes; clear hyes
        by_cases hmt : m < bn
        · obtain ⟨rfl, hbl, c0⟩ := HDC.out m hmt
          have c0 := (HBW.out.cell (p := ⟨bd, od + m, none⟩) hbl).trans c0
          have hbr : bd < wr.heap.size := by omega
          have HKL : Hid (m < e.drop.length) := Lib.hid (by rw [HDL.out]; exact hmt)
          generalize hx : e.drop.getD m 0 = x at *
          have HX := Lib.hid hx; clear hx
          by_cases h0 : x < 1
          · have HZ : Hid (Ed.chk e.add e.drop = 1) := Lib.hid (by rw [HE.out, all_no HKL.out (by rw [HX.out]; simp [Ed.numOk]; omega)]; simp)
            have g0 : (x : Int) < 1 := by omega
            go_wp2_with fail
            go_ret
            rw [HZ.out]
            exact ⟨rfl, HBW.out⟩
          · have g0 : ¬ (x : Int) < 1 := by omega
            by_cases h1 : 1099511627776 < x
            · have HZ : Hid (Ed.chk e.add e.drop = 1) := Lib.hid (by rw [HE.out, all_no HKL.out (by rw [HX.out]; simp [Ed.numOk]; omega)]; simp)
              have g1 : (1099511627776 : Int) < x := by omega
              go_wp2_with fail
              go_ret
              rw [HZ.out]
              exact ⟨rfl, HBW.out⟩
            · have g1 : ¬ (1099511627776 : Int) < x := by omega
              have hok : Ed.numOk x = true := by simp [Ed.numOk]; omega
              go_wp2_with fail
              go_roundw
              case rel =>
                refine ⟨m + 1, by omega, by go_num, fun j hj => ?_, by first | trivial | rfl⟩
                by_cases e : j = m
                · rw [e, HX.out]; exact hok
                · exact HY.out j (by omega)
              case measure => simp [intOf]; omega
        · have HZ : Hid (Ed.chk e.add e.drop = 0) := Lib.hid (by rw [HE.out, all_yes (fun j hj => HY.out j (by rw [HDL.out] at hj; omega))]; simp)
          go_wp2_with fail
          go_ret
          rw [HZ.out]
          exact ⟨rfl, HBW.out⟩

end Go.Proofs.Ytlhokfildhcdhaa
