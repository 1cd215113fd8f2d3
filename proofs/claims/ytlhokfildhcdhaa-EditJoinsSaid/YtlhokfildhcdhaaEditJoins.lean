/- The walk of EditJoins. -/
import Derived.Test.YtlhokfildhcdhaaEdQ
import Derived.Deep.RegionHeld3
namespace Go.Proofs.Ytlhokfildhcdhaa
open Go.RowKit Sk
set_option linter.unusedVariables false

theorem Ed.uniq_of {l : List Tbl} (h : ∀ i, i < l.length → Ed.hasI l (l.getD i tbd).n = i) : Ed.Uniq l := by
  unfold Ed.Uniq
  show List.Pairwise (fun a b => a ≠ b) (l.map Ed.tbNum)
  rw [List.pairwise_map, List.pairwise_iff_getElem]
  intro i j hi hj hij e
  have h1 := h i hi
  have h2 := h j hj
  have e1 : l.getD i tbd = l[i] := by simp [hi]
  have e2 : l.getD j tbd = l[j] := by simp [hj]
  rw [e1] at h1
  rw [e2] at h2
  have e' : (l[i]).n = (l[j]).n := e
  rw [e', h2] at h1
  omega
theorem Ed.hasI_self {l : List Tbl} (hu : Ed.Uniq l) (i : Nat) (hi : i < l.length) : Ed.hasI l (l.getD i tbd).n = i := by
  refine Ed.hasI_at hi rfl (fun j hj e => ?_)
  unfold Ed.Uniq at hu
  have hp : List.Pairwise (fun a b => a ≠ b) (l.map Ed.tbNum) := hu
  rw [List.pairwise_map, List.pairwise_iff_getElem] at hp
  have := hp j i (by omega) hi hj
  have e1 : l.getD i tbd = l[i] := by simp [hi]
  have e2 : l.getD j tbd = l[j] := by simp [show j < l.length by omega]
  rw [e1, e2] at e
  exact this e
theorem Ed.done_len {l m : List Tbl} {e : Edt} (hu : Ed.Uniq l) (h : Ed.done l e = some m) : m.length ≤ l.length + e.add.length := by
  obtain ⟨_, rfl⟩ := (Ed.done_iff hu).1 h
  unfold Ed.gone
  rw [List.length_append]
  have := List.length_filter_le (fun t : Tbl => !decide (t.n ∈ e.drop)) l
  omega
theorem flatMap_len {α β : Type} {f : α → List β} {B : Nat} : ∀ {l : List α}, (∀ x ∈ l, (f x).length ≤ B) → (l.flatMap f).length ≤ B * l.length
  | [], _ => by simp
  | x :: l, h => by
    have h1 := h x (List.mem_cons_self ..)
    have h2 := flatMap_len (l := l) (fun y hy => h y (List.mem_cons_of_mem _ hy))
    rw [List.flatMap_cons, List.length_append, List.length_cons, Nat.mul_add]
    omega
theorem Ed.coming_len {es : List Edt} {B : Nat} (h : ∀ e ∈ es, e.add.length ≤ B) : (Ed.coming es).length ≤ B * es.length := by
  unfold Ed.coming
  have := flatMap_len (f := fun i => (es.getD i edd).add.filter (fun t => decide (Ed.ld es t.n ≤ i))) (B := B) (l := List.range es.length) (fun i hi => Nat.le_trans (List.length_filter_le _ _) (h _ (ed_mem (List.mem_range.1 hi))))
  rwa [List.length_range] at this
theorem Ed.going_len {es : List Edt} {B : Nat} (h : ∀ e ∈ es, e.drop.length ≤ B) : (Ed.going es).length ≤ B * es.length := by
  unfold Ed.going
  have := flatMap_len (f := fun i => (es.getD i edd).drop.filter (fun n => !Ed.came (es.take i) n)) (B := B) (l := List.range es.length) (fun i hi => Nat.le_trans (List.length_filter_le _ _) (h _ (ed_mem (List.mem_range.1 hi))))
  rwa [List.length_range] at this

set_option maxHeartbeats 8000000 in
set_option maxRecDepth 100000 in
theorem joins_walk (ao : Option Addr) (an ac : Nat) (es : List Edt) (bo : Option Addr) (bn bc : Nat) (start : List Tbl) (w : World) (hE : SeesEd w (.slice ao an ac) es) (hI : ∀ e ∈ es, Ed.In e ∧ ∀ t ∈ e.add, TbShort t) (hS : SeesTb w (.slice bo bn bc) start) (hT : ∀ t ∈ start, Ed.InT t ∧ TbShort t) :
    Calls Try.prog 8 #[.slice ao an ac, .slice bo bn bc] w (Gives (.bool true) w) := by
  obtain ⟨hal, ba, oa, hac⟩ := hE.get
  obtain ⟨hbl0, bs, os, hbc⟩ := hS.get
  have HAC := Lib.hid hac; have HAL := Lib.hid hal; have HBC := Lib.hid hbc; have HBL := Lib.hid hbl0
  have HE := Lib.hid hE; have HS := Lib.hid hS; have HI := Lib.hid hI
  have HAW : Hid (∀ W, Calls Try.prog 18 #[] W (Gives (.bool true) W)) := Lib.hid (fun W => awake_any W)
  clear hac hal hbc hbl0 hE hS hI hT
  by_cases h20 : 20 < an
  · have h20i : (20 : Int) < an := by omega
    clear h20
    go_enter Try.func8, Try.ntmps8
    go_wp2_with fail
    refine (HAW.out _).mono ?_
    rintro r w1 ⟨rfl, hb1⟩
    go_wp2_with fail
    go_ret
    exact ⟨rfl, hb1⟩
  · have h20i : ¬ (20 : Int) < an := by omega
    have HG : Hid (∀ W, SeesTb W (.slice bo bn bc) start → Calls Try.prog 19 #[.agg #[.slice bo bn bc, .slice none 0 0, .int .u64 0, .int .u64 0, .int .u64 0]] W (Gives (.bool (greatE start [])) W)) := Lib.hid (fun W h => great_any bo bn bc none 0 0 ⟨start, [], 0, 0, 0⟩ W h rfl)
    cases hg : greatE start [] with
    | true =>
      rw [hg] at HG
      clear hg
      go_enter Try.func8, Try.ntmps8
      go_wp2_with fail
      refine (HG.out _ HS.out).mono ?_
      rintro r w1 ⟨rfl, hb1⟩
      have HB1 := Lib.hid hb1
      clear hb1
      go_wp2_with fail
      refine (HAW.out _).mono ?_
      rintro r w2 ⟨rfl, hb2⟩
      have HB2 : Hid (Below w.heap.size w w2) := Lib.hid (Below.next HB1.out hb2)
      clear hb2
      go_wp2_with fail
      go_ret
      exact ⟨rfl, HB2.out⟩
    | false =>
      rw [hg] at HG
      obtain ⟨hs60, -, hss⟩ := greatE_no hg
      have hbn : bn ≤ 60 := by have := HBL.out; omega
      clear hg hs60 hss
      go_enter Try.func8, Try.ntmps8
      go_wp2_with fail
      refine (HG.out _ HS.out).mono ?_
      rintro r w1 ⟨rfl, hb1⟩
      have HB1 := Lib.hid hb1
      clear hb1
      go_wp2_with fail
      go_loopw [5] (fun i wr => ∃ k : Nat, k ≤ bn ∧ i = .int .i64 k ∧ (∀ j, j < k → Ed.hasI start (start.getD j tbd).n = j) ∧ wr = w1) (fun i _ => bn - (intOf i).toNat)
      case atStart => exact ⟨0, Nat.zero_le _, rfl, fun j hj => by omega, rfl⟩
      case round =>
        obtain ⟨k, hk, rfl, hyes, rfl⟩ := hrel
        have HY := Lib.hid hyes
        clear hyes
        by_cases hlt : k < bn
        · obtain ⟨rfl, hbl, hob⟩ := HBC.out k hlt
          obtain ⟨c0, -⟩ := hob.below HB1.out hbl
          have hbr : bs < wr.heap.size := by have := HB1.out.size; omega
          obtain ⟨n, hnq⟩ : ∃ n, n = (start.getD k tbd).n := ⟨_, rfl⟩
          have HNQ := Lib.hid hnq
          rw [← hnq] at c0
          clear hnq
          have HHA := Lib.hid (has_any _ bn bc start n wr (HS.out.below HB1.out) (by omega))
          by_cases hh : Ed.hasI start n = k
          · rw [hh] at HHA
            have HH := Lib.hid hh
            clear hh
            go_wp2_with fail
            refine HHA.out.mono ?_
            rintro r w2 ⟨rfl, rfl⟩
            go_wp2_with fail
            go_roundw
            case rel =>
              refine ⟨k + 1, by omega, by go_num, fun j hj => ?_, by first | trivial | rfl⟩
              by_cases e : j = k
              · rw [e, ← HNQ.out]; exact HH.out
              · exact HY.out j (by omega)
            case measure => simp [intOf]; omega
          · generalize Ed.hasI start n = q at *
            have hq : ¬ (q = (k : Int)) := hh
            have hq2 : (q != (k : Int)) = true := by rw [bne_iff_ne]; exact hh
            clear hh
            go_wp2_with fail
            refine HHA.out.mono ?_
            rintro r w2 ⟨rfl, rfl⟩
            go_wp2_with fail
            refine (HAW.out _).mono ?_
            rintro r w3 ⟨rfl, hb3⟩
            have HB3 : Hid (Below w.heap.size w w3) := Lib.hid (Below.next HB1.out hb3)
            clear hb3
            go_wp2_with fail
            go_ret
            exact ⟨rfl, HB3.out⟩
        · obtain rfl : k = bn := by omega
          have HU : Hid (Ed.Uniq start) := Lib.hid (Ed.uniq_of (fun i hi => HY.out i (by rw [HBL.out] at hi; exact hi)))
          clear HY
          go_wp2_with fail
          have HBK : Hid (k ≤ 60) := Lib.hid hbn
          have HSW : Hid (SeesTb wr (.slice bo k bc) start) := Lib.hid (HS.out.below HB1.out)
          have HMX : Hid (∀ a b : Nat, (max (a : Int) (b : Int)) = ((max a b : Nat) : Int)) := Lib.hid (fun a b => by omega)
          go_loopw [6, 7, 8, 9, 10] (fun u g1 g2 g3 i w2 => ∃ (q : Nat) (now : List Tbl), q ≤ an ∧ i = .int .i64 q ∧ SeesTb w2 u now ∧ Ed.dones start (es.take q) = some now ∧ now.length ≤ 60 + 60 * q ∧ g1 = .int .u64 (Ed.tops Edt.log (es.take q) : Nat) ∧ g2 = .int .u64 (Ed.tops Edt.seq (es.take q) : Nat) ∧ g3 = .int .u64 (Ed.tops Edt.next (es.take q) : Nat) ∧ (∀ j, j < q → greatE (es.getD j edd).add (es.getD j edd).drop = false) ∧ Below w.heap.size w w2) (fun _ _ _ _ i _ => an - (intOf i).toNat)
          case atStart => exact ⟨0, start, Nat.zero_le _, rfl, HSW.out, rfl, by rw [HBL.out]; omega, rfl, rfl, rfl, fun j hj => by omega, HB1.out⟩
          case round =>
            obtain ⟨q, now, hq, rfl, hsee, hdn, hnl, rfl, rfl, rfl, hng, hbel⟩ := hrel
            have HSEE := Lib.hid hsee; have HDN := Lib.hid hdn; have HNL := Lib.hid hnl; have HNG := Lib.hid hng; have HBE := Lib.hid hbel
            obtain ⟨uo, uc, rfl⟩ := hsee.slice
            have hsz := hbel.size
            by_cases hqt : q < an
            · obtain ⟨rfl, hbl, hob⟩ := HAC.out q hqt
              obtain ⟨xo, xn, xc, yo, yn, yc, c0, c1, c2, c3, c4, hA, hD⟩ := hob
              have c0 := (hbel.cell (p := ⟨ba, oa + q * 5, none⟩) hbl).trans c0
              have c1 := (hbel.cell (p := ⟨ba, oa + q * 5 + 1, none⟩) hbl).trans c1
              have c2 := (hbel.cell (p := ⟨ba, oa + q * 5 + 2, none⟩) hbl).trans c2
              have c3 := (hbel.cell (p := ⟨ba, oa + q * 5 + 3, none⟩) hbl).trans c3
              have c4 := (hbel.cell (p := ⟨ba, oa + q * 5 + 4, none⟩) hbl).trans c4
              have hbr : ba < wr.heap.size := by omega
              have hql : q < es.length := by rw [HAL.out]; exact hqt
              have HTK : Hid (es.take (q + 1) = es.take q ++ [es.getD q edd]) := Lib.hid (take_snocE es q hql)
              have HGJ : Hid (greatE (es.getD q edd).add (es.getD q edd).drop = false → ∀ j, j < q + 1 → greatE (es.getD j edd).add (es.getD j edd).drop = false) := Lib.hid (fun h j hj => by
                by_cases e : j = q
                · rw [e]; exact h
                · exact HNG.out j (by omega))
              generalize es.getD q edd = x at *
              have HA := Lib.hid hA; have HD := Lib.hid hD
              have HGX : Hid (∀ W, SeesTb W (.slice xo xn xc) x.add → Calls Try.prog 19 #[.agg #[.slice xo xn xc, .slice yo yn yc, .int .u64 (x.log : Nat), .int .u64 (x.seq : Nat), .int .u64 (x.next : Nat)]] W (Gives (.bool (greatE x.add x.drop)) W)) := Lib.hid (fun W h => great_any xo xn xc yo yn yc x W h hD.get.1.symm)
              have hxal := hA.get.1
              have hxdl := hD.get.1
              clear hA hD hql hsee hdn hnl hng hbel
              cases hgx : greatE x.add x.drop with
              | true =>
                rw [hgx] at HGX
                clear hgx hxal hxdl
                go_wp2_with fail
                refine (HGX.out _ (HA.out.below HBE.out)).mono ?_
                rintro r w2 ⟨rfl, hb2⟩
                have HB2 : Hid (Below w.heap.size w w2) := Lib.hid (Below.next HBE.out hb2)
                clear hb2
                go_wp2_with fail
                refine (HAW.out _).mono ?_
                rintro r w3 ⟨rfl, hb3⟩
                have HB3 : Hid (Below w.heap.size w w3) := Lib.hid (Below.next HB2.out hb3)
                clear hb3
                go_wp2_with fail
                go_ret
                exact ⟨rfl, HB3.out⟩
              | false =>
                rw [hgx] at HGX
                obtain ⟨hx60, hx61, -⟩ := greatE_no hgx
                have HG2 := Lib.hid (HGJ.out hgx)
                have HX60 : Hid (x.add.length ≤ 60) := Lib.hid hx60
                have HUN : Hid (Ed.Uniq now) := Lib.hid (Ed.dones_uniq HU.out HDN.out)
                have HDO : Hid (∀ W, SeesTb W (.slice uo now.length uc) now → SeesTb W (.slice xo xn xc) x.add → SeesU W (.slice yo yn yc) x.drop → Calls Try.prog 26 #[.slice uo now.length uc, .agg #[.slice xo xn xc, .slice yo yn yc, .int .u64 (x.log : Nat), .int .u64 (x.seq : Nat), .int .u64 (x.next : Nat)]] W (fun r w' => Below W.heap.size W w' ∧ ((Ed.done now x = none ∧ r = .returned (.tuple #[.slice none 0 0, .bool false])) ∨ ∃ m v, Ed.done now x = some m ∧ r = .returned (.tuple #[v, .bool true]) ∧ OwnsTb w' W.heap.size v m))) := Lib.hid (fun W h1 h2 h3 => done_any xo xn xc yo yn yc uo now.length uc now x W h1 h2 h3 (by have := HNL.out; omega) (by omega) (by omega))
                clear hgx hxal hxdl hx60 hx61
                go_wp2_with fail
                refine (HGX.out _ (HA.out.below HBE.out)).mono ?_
                rintro r w2 ⟨rfl, hb2⟩
                have HB2 : Hid (Below w.heap.size w w2) := Lib.hid (Below.next HBE.out hb2)
                have d0 := (hb2.cell (p := ⟨ba, oa + q * 5, none⟩) hbr).trans c0
                have d1 := (hb2.cell (p := ⟨ba, oa + q * 5 + 1, none⟩) hbr).trans c1
                have d2 := (hb2.cell (p := ⟨ba, oa + q * 5 + 2, none⟩) hbr).trans c2
                have d3 := (hb2.cell (p := ⟨ba, oa + q * 5 + 3, none⟩) hbr).trans c3
                have d4 := (hb2.cell (p := ⟨ba, oa + q * 5 + 4, none⟩) hbr).trans c4
                have hbr2 : ba < w2.heap.size := Nat.lt_of_lt_of_le hbr hb2.size
                have HS2 : Hid (SeesTb w2 (.slice uo now.length uc) now) := Lib.hid (HSEE.out.below hb2)
                clear hb2 c0 c1 c2 c3 c4 hbr
                go_wp2_with fail
                refine (HDO.out _ HS2.out (HA.out.below HB2.out) (HD.out.below HB2.out)).mono ?_
                rintro r w3 ⟨hb3, hcase⟩
                have HB3 : Hid (Below w.heap.size w w3) := Lib.hid (Below.next HB2.out hb3)
                have e2 := (hb3.cell (p := ⟨ba, oa + q * 5 + 2, none⟩) hbr2).trans d2
                have e3 := (hb3.cell (p := ⟨ba, oa + q * 5 + 3, none⟩) hbr2).trans d3
                have e4 := (hb3.cell (p := ⟨ba, oa + q * 5 + 4, none⟩) hbr2).trans d4
                have hbr3 : ba < w3.heap.size := Nat.lt_of_lt_of_le hbr2 hb3.size
                clear hb3 d0 d1 d2 d3 d4 hbr2
                rcases hcase with ⟨hdo, rfl⟩ | ⟨m, v, hdo, rfl, hown⟩
                · clear hdo
                  go_wp2_with fail
                  refine (HAW.out _).mono ?_
                  rintro r w4 ⟨rfl, hb4⟩
                  have HB4 : Hid (Below w.heap.size w w4) := Lib.hid (Below.next HB3.out hb4)
                  clear hb4
                  go_wp2_with fail
                  go_ret
                  exact ⟨rfl, HB4.out⟩
                · have HDM : Hid (Ed.dones start (es.take (q + 1)) = some m) := Lib.hid (by rw [HTK.out, Ed.dones_snoc, HDN.out]; exact hdo)
                  have HML : Hid (m.length ≤ 60 + 60 * (q + 1)) := Lib.hid (by have := Ed.done_len HUN.out hdo; have := HNL.out; have := HX60.out; omega)
                  have HSM : Hid (SeesTb w3 v m) := Lib.hid hown.sees
                  have HT1 : Hid (Ed.tops Edt.log (es.take (q + 1)) = max (Ed.tops Edt.log (es.take q)) x.log) := Lib.hid (by rw [HTK.out, Ed.tops_snoc])
                  have HT2 : Hid (Ed.tops Edt.seq (es.take (q + 1)) = max (Ed.tops Edt.seq (es.take q)) x.seq) := Lib.hid (by rw [HTK.out, Ed.tops_snoc])
                  have HT3 : Hid (Ed.tops Edt.next (es.take (q + 1)) = max (Ed.tops Edt.next (es.take q)) x.next) := Lib.hid (by rw [HTK.out, Ed.tops_snoc])
                  clear hdo hown
                  go_wp2_with fail
                  go_quiet (fail)
                  go_wp2_with fail
                  have hdr : Below w3.heap.size w3 (w3.drewN nq) := ⟨rfl, rfl, rfl, Nat.le_refl _, fun _ _ => rfl⟩
                  exact ⟨⟨q + 1, m, by omega, by go_num, HSM.out.below hdr, HDM.out, HML.out, by rw [HT1.out, HMX.out], by rw [HT2.out, HMX.out], by rw [HT3.out, HMX.out], HG2.out, Below.next HB3.out hdr⟩, by simp [intOf]; omega⟩
            · obtain rfl : q = an := by omega
              have HTE : Hid (es.take q = es) := Lib.hid (List.take_of_length_le (by rw [HAL.out]; exact Nat.le_refl _))
              rw [HTE.out] at HDN
              have HC : Hid (Ed.Calm es) := Lib.hid ⟨by rw [HAL.out]; omega, fun e he => by
                obtain ⟨i, hi, rfl⟩ := mem_getD (d := edd) he
                obtain ⟨a1, a2, a3⟩ := greatE_no (HNG.out i (by rw [HAL.out] at hi; exact hi))
                exact ⟨by omega, by omega, (HI.out _ he).1, fun t ht => by obtain ⟨b1, b2⟩ := a3 t ht; omega⟩⟩
              have HCL : Hid ((Ed.coming es).length ≤ 1200 ∧ (Ed.going es).length ≤ 1200) := Lib.hid (by
                have hq20 : es.length ≤ 20 := by rw [HAL.out]; omega
                have b1 := Ed.coming_len (es := es) (B := 60) (fun e he => by
                  obtain ⟨i, hi, rfl⟩ := mem_getD (d := edd) he
                  exact (greatE_no (HNG.out i (by rw [HAL.out] at hi; exact hi))).1)
                have b2 := Ed.going_len (es := es) (B := 60) (fun e he => by
                  obtain ⟨i, hi, rfl⟩ := mem_getD (d := edd) he
                  exact (greatE_no (HNG.out i (by rw [HAL.out] at hi; exact hi))).2.1)
                omega)
              have HDJ : Hid (Ed.done start (Ed.join es) = some now) := Lib.hid (Ed.done_join HU.out HDN.out)
              have HUN : Hid (Ed.Uniq now) := Lib.hid (Ed.dones_uniq HU.out HDN.out)
              have HJO : Hid (∀ W, Below w.heap.size w W → Calls Try.prog 17 #[.slice ao q ac] W (EdMade (Ed.join es) W)) := Lib.hid (fun W hb => join_any ao q ac es W (HE.out.below hb) HC.out)
              rw [HTE.out]
              have HNN : Hid (now.length ≤ 2000) := Lib.hid (by have := HNL.out; omega)
              have hnq : now.length < 10000 := by have := HNL.out; omega
              clear hsee hdn hnl hng hbel HNG HNL HC HTE
              go_wp2_with fail
              refine (HJO.out _ HBE.out).mono ?_
              rintro r w2 ⟨jo, jc, ko, kc, rfl, hj1, hj2, hb2⟩
              have HB2 : Hid (Below w.heap.size w w2) := Lib.hid (Below.next HBE.out hb2)
              have HJ1 : Hid (SeesTb w2 (.slice jo (Ed.join es).add.length jc) (Ed.join es).add) := Lib.hid hj1.sees
              have HJ2 : Hid (SeesU w2 (.slice ko (Ed.join es).drop.length kc) (Ed.join es).drop) := Lib.hid hj2.sees
              have HN2 : Hid (SeesTb w2 (.slice uo now.length uc) now) := Lib.hid (HSEE.out.below hb2)
              have HDO : Hid (∀ W, SeesTb W (.slice bo k bc) start → SeesTb W (.slice jo (Ed.join es).add.length jc) (Ed.join es).add → SeesU W (.slice ko (Ed.join es).drop.length kc) (Ed.join es).drop → Calls Try.prog 26 #[.slice bo k bc, .agg #[.slice jo (Ed.join es).add.length jc, .slice ko (Ed.join es).drop.length kc, .int .u64 (Ed.tops Edt.log es : Nat), .int .u64 (Ed.tops Edt.seq es : Nat), .int .u64 (Ed.tops Edt.next es : Nat)]] W (fun r w' => Below W.heap.size W w' ∧ ∃ v, r = .returned (.tuple #[v, .bool true]) ∧ OwnsTb w' W.heap.size v now)) := Lib.hid (fun W h1 h2 h3 => by
                have a1 : (Ed.join es).add.length ≤ 1200 := HCL.out.1
                have a2 : (Ed.join es).drop.length ≤ 1200 := HCL.out.2
                refine (done_any jo (Ed.join es).add.length jc ko (Ed.join es).drop.length kc bo k bc start (Ed.join es) W h1 h2 h3 (by have := HBK.out; omega) (by omega) (by omega)).mono ?_
                rintro r w' ⟨hb, ⟨h, _⟩ | ⟨m, v, h, rfl, ho⟩⟩
                · rw [HDJ.out] at h; cases h
                · rw [HDJ.out] at h
                  obtain rfl := Option.some.inj h
                  exact ⟨hb, v, rfl, ho⟩)
              have q1 : (Ed.join es).log = Ed.tops Edt.log es := rfl
              have q2 : (Ed.join es).seq = Ed.tops Edt.seq es := rfl
              have q3 : (Ed.join es).next = Ed.tops Edt.next es := rfl
              rw [q1, q2, q3]
              clear q1 q2 q3 hb2 hj1 hj2
              generalize (Ed.join es).add = JA at *
              generalize (Ed.join es).drop = JD at *
              unfold edV
              go_wp2_with fail
              generalize Ed.tops Edt.log es = LG at *
              generalize Ed.tops Edt.seq es = SQ at *
              generalize Ed.tops Edt.next es = NX at *
              have HX3 : Hid (Ex (w2.alloc (.cells #[.slice jo JA.length jc, .slice ko JD.length kc, .int .u64 (LG : Nat), .int .u64 (SQ : Nat), .int .u64 (NX : Nat)] 29)) w2.heap.size (.slice jo JA.length jc) (.slice ko JD.length kc) LG SQ NX) := Lib.hid (heap_alloc_new _ _)
              have hal2 : Below w2.heap.size w2 (w2.alloc (.cells #[.slice jo JA.length jc, .slice ko JD.length kc, .int .u64 (LG : Nat), .int .u64 (SQ : Nat), .int .u64 (NX : Nat)] 29)) := (Below.refl _ _).alloc (Nat.le_refl _) _
              refine (HDO.out _ (HS.out.below (Below.next HB2.out hal2)) (HJ1.out.below hal2) (HJ2.out.below hal2)).mono ?_
              rintro r w3 ⟨hb3, v, rfl, hown⟩
              have HB3 : Hid (Below w.heap.size w w3) := Lib.hid (Below.next (Below.next HB2.out hal2) hb3)
              have HN3 : Hid (SeesTb w3 (.slice uo now.length uc) now) := Lib.hid ((HN2.out.below hal2).below hb3)
              have HV3 : Hid (SeesTb w3 v now) := Lib.hid hown.sees
              obtain ⟨vo, vc, rfl⟩ := hown.slice
              obtain ⟨f0, f1, f2, f3, f4, ff, flt⟩ := Ex.of (kept_block HX3.out hb3 : Ex w3 w2.heap.size (.slice jo JA.length jc) (.slice ko JD.length kc) LG SQ NX)
              clear hb3 hown hal2 HX3 HDO HJO HDN HDJ HCL HJ1 HJ2 HN2
              go_wp2_with fail
              obtain ⟨-, bn1, on1, hn1⟩ := HN3.out.get
              obtain ⟨-, bv1, ov1, hv1⟩ := HV3.out.get
              have HN1 := Lib.hid hn1; have HV1 := Lib.hid hv1
              clear hn1 hv1 f0 f1 f2 f3 f4 ff flt
              go_loopw [15] (fun i w4 => ∃ j : Nat, j ≤ now.length ∧ i = .int .i64 j ∧ Below w3.heap.size w3 w4) (fun i _ => now.length - (intOf i).toNat)
              case atStart => exact ⟨0, Nat.zero_le _, rfl, Below.refl _ _⟩
              case round =>
                obtain ⟨j, hj, rfl, hbel⟩ := hrel
                have hszw := hbel.size
                have HBL2 := Lib.hid hbel
                by_cases hjt : j < now.length
                · obtain ⟨rfl, hbl, hob⟩ := HN1.out j hjt
                  obtain ⟨rfl, hbl2, hob2⟩ := HV1.out j hjt
                  obtain ⟨c0, c1, c2, c3, c4, c5, c6, c7⟩ := hob.below hbel hbl
                  obtain ⟨d0, d1, d2, d3, d4, d5, d6, d7⟩ := hob2.below hbel hbl2
                  have hbr : bn1 < wr.heap.size := by omega
                  have hbr2 : bv1 < wr.heap.size := by omega
                  have HSI : Hid (Ed.hasI now (now.getD j tbd).n = j) := Lib.hid (Ed.hasI_self HUN.out j hjt)
                  have HVW : Hid (SeesTb wr (.slice (some ⟨bv1, ov1, none⟩) now.length vc) now) := Lib.hid (HV3.out.below hbel)
                  clear hob hob2 hbel
                  generalize now.getD j tbd = t at *
                  have HHA := Lib.hid (has_any _ now.length vc now t.n wr HVW.out (by omega))
                  rw [HSI.out] at HHA
                  go_wp2_with fail
                  refine HHA.out.mono ?_
                  rintro r w5 ⟨rfl, rfl⟩
                  go_wp2_with fail
                  go_quiet (fail)
                  go_wp2_with fail
                  go_roundw
                  case rel => exact ⟨j + 1, by omega, by go_num, ⟨HBL2.out.os, HBL2.out.tape, HBL2.out.output, HBL2.out.size, HBL2.out.block⟩⟩
                  case measure => simp [intOf]; omega
                · go_wp2_with fail
                  refine (HAW.out _).mono ?_
                  rintro r w5 ⟨rfl, hb5⟩
                  have HB5 : Hid (Below w.heap.size w w5) := Lib.hid (Below.next (Below.next HB3.out HBL2.out) hb5)
                  clear hb5
                  go_wp2_with fail
                  go_ret
                  exact ⟨rfl, HB5.out⟩

end Go.Proofs.Ytlhokfildhcdhaa
