/- The walk of EditJoinTells. -/
import Derived.Test.YtbdoekogoiijeaaEdZa
import Derived.Deep.RegionHeld3
import Derived.Deep.RegionLaw
namespace Go.Proofs.Ytbdoekogoiijeaa
open Go.RowKit Sk
set_option linter.unusedVariables false
set_option maxRecDepth 100000

/-- Where a row of the call's own lies, so far as stores into it ask. -/
def Rowed (w : World) (base : Nat) (t : TypeId) (z n : Nat) (a : Option Addr) : Prop := 0 < n → ∃ g cur, a = some ⟨g, 0, none⟩ ∧ base ≤ g ∧ w.heap[g]? = some (.cells cur t (0, 0)) ∧ n * z ≤ cur.size
theorem Rowed.of {w : World} {base : Nat} {t : TypeId} {z n c : Nat} {a : Option Addr} {xs : List Value} (h : w.ownsRow base t z (.slice a n c) n xs) : Rowed w base t z n a := fun hn => by
  rcases h.2 with ⟨h0, _⟩ | ⟨g, cap, cur, h0, hb, hg, hnc, hcm, hcs, htake⟩
  · simp only [Value.slice.injEq] at h0; omega
  · simp only [Value.slice.injEq] at h0
    obtain ⟨rfl, _, rfl⟩ := h0
    exact ⟨g, cur, rfl, hb, hg, by rw [hcs]; exact Nat.mul_le_mul_right _ hnc⟩
theorem Rowed.kept {w w' : World} {base : Nat} {t : TypeId} {z n : Nat} {a : Option Addr} (h : Rowed w base t z n a) (hb : Below w.heap.size w w') : Rowed w' base t z n a := fun hn => by
  obtain ⟨g, cur, e, h1, h2, h3⟩ := h hn
  exact ⟨g, cur, e, h1, kept_block h2 hb, h3⟩
theorem Rowed.set {w : World} {base : Nat} {t : TypeId} {z n : Nat} {a : Option Addr} (h : Rowed w base t z n a) (b o : Nat) (v : Value) : Rowed (w.setCell ⟨b, o, none⟩ v) base t z n a := fun hn => by
  obtain ⟨g, cur, e, h1, h2, h3⟩ := h hn
  by_cases hg : g = b
  · subst hg
    exact ⟨g, _, e, h1, heap_setCell_same _ _ o _ _ v h2, by simpa using h3⟩
  · exact ⟨g, cur, e, h1, (Sk.setCell_kept w ⟨b, o, none⟩ v hg).trans h2, h3⟩
theorem cell_some {w : World} {g o : Nat} {cur : Array Value} {t : TypeId} (h : w.heap[g]? = some (.cells cur t (0, 0))) (ho : o < cur.size) : ∃ u, w.cell? ⟨g, o, none⟩ = some u := ⟨cur[o], by rw [Sk.cell_of h]; simp [ho]⟩

set_option maxHeartbeats 8000000 in
theorem jointells_walk (ao : Option Addr) (an ac : Nat) (es : List Edt) (w : World) (hE : SeesEd w (.slice ao an ac) es) (hI : ∀ e ∈ es, Ed.In e ∧ ∀ t ∈ e.add, TbShort t) :
    Calls Try.prog 3 #[.slice ao an ac] w (Gives (.bool true) w) := by
  obtain ⟨hal, ba, oa, hac⟩ := hE.get
  obtain ⟨i0, hi, hz0, hz1, hz2⟩ := info_parts info_ed
  obtain ⟨i1, hi1, hy0, hy1, hy2⟩ := info_parts info_ey
  have HAC := Lib.hid hac; have HAL := Lib.hid hal
  have HE := Lib.hid hE; have HI := Lib.hid hI
  have HAW : Hid (∀ W, Calls Try.prog 11 #[] W (Gives (.bool true) W)) := Lib.hid (fun W => awake_any W)
  clear hac hal hE hI
  by_cases h20 : 20 < an
  · have h20i : (20 : Int) < an := by omega
    clear h20
    go_enter Try.func3, Try.ntmps3
    go_wp2_with fail
    refine (HAW.out _).mono ?_
    rintro r w1 ⟨rfl, hb1⟩
    go_wp2_with fail
    go_ret
    exact ⟨rfl, hb1⟩
  · have h20i : ¬ (20 : Int) < an := by omega
    go_enter Try.func3, Try.ntmps3
    go_wp2_with fail
    go_loopw [3, 4, 5] (fun u v i wr => ∃ k : Nat, k ≤ an ∧ i = .int .i64 k ∧ OwnsEs wr w.heap.size 31 u (es.take k) ∧ OwnsEs wr w.heap.size 30 v (es.take k) ∧ (∀ j, j < k → greatE (es.getD j edd).add (es.getD j edd).drop = false) ∧ Below w.heap.size w wr) (fun _ _ i _ => an - (intOf i).toNat)
    case atStart => exact ⟨0, Nat.zero_le _, rfl, OwnsEs.nil _ _ _, OwnsEs.nil _ _ _, fun j hj => by omega, Below.refl _ _⟩
    case round =>
      obtain ⟨k, hk, rfl, hu, hv, hng, hbel⟩ := hrel
      obtain ⟨so, sc, rfl⟩ := hu.slice
      obtain ⟨to, tc, rfl⟩ := hv.slice
      have HU := Lib.hid hu; have HV := Lib.hid hv; have HNG := Lib.hid hng; have HBE := Lib.hid hbel
      have hsz := hbel.size
      by_cases hlt : k < an
      · obtain ⟨rfl, hbl, xo, xn, xc, yo, yn, yc, c0, c1, c2, c3, c4, hA, hD⟩ := HAC.out k hlt
        have c0 := (hbel.cell (p := ⟨ba, oa + k * 5, none⟩) hbl).trans c0
        have c1 := (hbel.cell (p := ⟨ba, oa + k * 5 + 1, none⟩) hbl).trans c1
        have c2 := (hbel.cell (p := ⟨ba, oa + k * 5 + 2, none⟩) hbl).trans c2
        have c3 := (hbel.cell (p := ⟨ba, oa + k * 5 + 3, none⟩) hbl).trans c3
        have c4 := (hbel.cell (p := ⟨ba, oa + k * 5 + 4, none⟩) hbl).trans c4
        have hbr : ba < wr.heap.size := by omega
        have hql : k < es.length := by rw [HAL.out]; exact hlt
        have HTK : Hid (es.take (k + 1) = es.take k ++ [es.getD k edd]) := Lib.hid (take_snocE es k hql)
        have HGJ : Hid (greatE (es.getD k edd).add (es.getD k edd).drop = false → ∀ j, j < k + 1 → greatE (es.getD j edd).add (es.getD j edd).drop = false) := Lib.hid (fun h j hj => by
          by_cases e : j = k
          · rw [e]; exact h
          · exact HNG.out j (by omega))
        have HTL : Hid ((es.take k).length = k) := Lib.hid (by rw [List.length_take]; omega)
        generalize es.getD k edd = x at *
        generalize es.take k = F at *
        have HA := Lib.hid hA; have HD := Lib.hid hD
        have HGX : Hid (∀ W, SeesTb W (.slice xo xn xc) x.add → Calls Try.prog 12 #[.agg #[.slice xo xn xc, .slice yo yn yc, .int .u64 (x.log : Nat), .int .u64 (x.seq : Nat), .int .u64 (x.next : Nat)]] W (Gives (.bool (greatE x.add x.drop)) W)) := Lib.hid (fun W h => great_any xo xn xc yo yn yc x W h hD.get.1.symm)
        have hxal := hA.get.1
        have hxdl := hD.get.1
        clear hA hD hql hu hv hng hbel
        cases hgx : greatE x.add x.drop with
        | true =>
          rw [hgx] at HGX
          clear hgx hxal hxdl
          go_wp2_with fail
          refine (HGX.out _ (HA.out.below HBE.out)).mono ?_
          rintro r w2 ⟨rfl, hb2⟩
          have HB2 : Hid (Below w.heap.size w w2) := Lib.hid (Below.next HBE.out hb2)
          clear hb2
          go_wp2_with fail
          refine (HAW.out _).mono ?_
          rintro r w3 ⟨rfl, hb3⟩
          have HB3 : Hid (Below w.heap.size w w3) := Lib.hid (Below.next HB2.out hb3)
          clear hb3
          go_wp2_with fail
          go_ret
          exact ⟨rfl, HB3.out⟩
        | false =>
          rw [hgx] at HGX
          obtain ⟨hx60, hx61, -⟩ := greatE_no hgx
          have HG2 := Lib.hid (HGJ.out hgx)
          have HCO : Hid (∀ W, Below w.heap.size w W → Calls Try.prog 14 #[.agg #[.slice xo xn xc, .slice yo yn yc, .int .u64 (x.log : Nat), .int .u64 (x.seq : Nat), .int .u64 (x.next : Nat)]] W (EdMade x W)) := Lib.hid (fun W hb => copied_any xo xn xc yo yn yc x W (HA.out.below hb) (HD.out.below hb) (by omega) (by omega))
          have HCC : Hid (∀ W, Below w.heap.size w W → W.cell? ⟨ba, oa + k * 5, none⟩ = some (.slice xo xn xc) ∧ W.cell? ⟨ba, oa + k * 5 + 1, none⟩ = some (.slice yo yn yc) ∧ W.cell? ⟨ba, oa + k * 5 + 2, none⟩ = some (.int .u64 (x.log : Nat)) ∧ W.cell? ⟨ba, oa + k * 5 + 3, none⟩ = some (.int .u64 (x.seq : Nat)) ∧ W.cell? ⟨ba, oa + k * 5 + 4, none⟩ = some (.int .u64 (x.next : Nat))) := Lib.hid (fun W hb => by
            have e : ∀ o, W.cell? ⟨ba, o, none⟩ = wr.cell? ⟨ba, o, none⟩ := fun o => (hb.cell (p := ⟨ba, o, none⟩) hbl).trans (HBE.out.cell (p := ⟨ba, o, none⟩) hbl).symm
            rw [e, e, e, e, e]
            exact ⟨c0, c1, c2, c3, c4⟩)
          clear hgx hxal hxdl
          go_wp2_with fail
          refine (HGX.out _ (HA.out.below HBE.out)).mono ?_
          rintro r w2 ⟨rfl, hb2⟩
          have HB2 : Hid (Below w.heap.size w w2) := Lib.hid (Below.next HBE.out hb2)
          have HU2 : Hid (OwnsEs w2 w.heap.size 31 (.slice so F.length sc) F) := Lib.hid (HU.out.below hb2)
          have HV2 : Hid (OwnsEs w2 w.heap.size 30 (.slice to F.length tc) F) := Lib.hid (HV.out.below hb2)
          clear hb2 c0 c1 c2 c3 c4 HGX HU HV
          obtain ⟨c0, c1, c2, c3, c4⟩ := HCC.out _ HB2.out
          go_wp2_with fail
          refine (HCO.out _ HB2.out).mono ?_
          rintro r w3 ⟨po, pc, qo, qc, rfl, h31, h32, hb3⟩
          have HB3 : Hid (Below w.heap.size w w3) := Lib.hid (Below.next HB2.out hb3)
          have HU3 : Hid (OwnsEs w3 w.heap.size 31 (.slice so F.length sc) F) := Lib.hid (HU2.out.below hb3)
          have HV3 : Hid (OwnsEs w3 w.heap.size 30 (.slice to F.length tc) F) := Lib.hid (HV2.out.below hb3)
          have HP3 : Hid (OwnsTb w3 w.heap.size (.slice po x.add.length pc) x.add) := Lib.hid (h31.low HB2.out.size)
          have HQ3 : Hid (OwnsN w3 w.heap.size (.slice qo x.drop.length qc) x.drop) := Lib.hid (h32.low HB2.out.size)
          clear hb3 c0 c1 c2 c3 c4 h31 h32 HU2 HV2
          go_wp2_with fail
          refine (given_any _ _ _ _ _ _ _ _ _ _).mono ?_
          rintro r w4 ⟨rfl, hb4⟩
          have HB4 : Hid (Below w.heap.size w w4) := Lib.hid (Below.next HB3.out hb4)
          have ha5 : Below w4.heap.size w4 (w4.alloc (.cells #[.slice po x.add.length pc, .slice qo x.drop.length qc, .int .u64 (x.log : Nat), .int .u64 (x.seq : Nat), .int .u64 (x.next : Nat)] 31)) := (Below.refl _ _).alloc (Nat.le_refl _) _
          have HB5 : Hid (Below w.heap.size w (w4.alloc (.cells #[.slice po x.add.length pc, .slice qo x.drop.length qc, .int .u64 (x.log : Nat), .int .u64 (x.seq : Nat), .int .u64 (x.next : Nat)] 31))) := Lib.hid (Below.next HB4.out ha5)
          have HU5 : Hid (OwnsEs (w4.alloc (.cells #[.slice po x.add.length pc, .slice qo x.drop.length qc, .int .u64 (x.log : Nat), .int .u64 (x.seq : Nat), .int .u64 (x.next : Nat)] 31)) w.heap.size 31 (.slice so F.length sc) F) := Lib.hid ((HU3.out.below hb4).below ha5)
          have HV5 : Hid (OwnsEs (w4.alloc (.cells #[.slice po x.add.length pc, .slice qo x.drop.length qc, .int .u64 (x.log : Nat), .int .u64 (x.seq : Nat), .int .u64 (x.next : Nat)] 31)) w.heap.size 30 (.slice to F.length tc) F) := Lib.hid ((HV3.out.below hb4).below ha5)
          have HP5 : Hid (OwnsTb (w4.alloc (.cells #[.slice po x.add.length pc, .slice qo x.drop.length qc, .int .u64 (x.log : Nat), .int .u64 (x.seq : Nat), .int .u64 (x.next : Nat)] 31)) w.heap.size (.slice po x.add.length pc) x.add) := Lib.hid ((HP3.out.below hb4).below ha5)
          have HQ5 : Hid (OwnsN (w4.alloc (.cells #[.slice po x.add.length pc, .slice qo x.drop.length qc, .int .u64 (x.log : Nat), .int .u64 (x.seq : Nat), .int .u64 (x.next : Nat)] 31)) w.heap.size (.slice qo x.drop.length qc) x.drop) := Lib.hid ((HQ3.out.below hb4).below ha5)
          obtain ⟨css, hcl, hraw, hrow⟩ := HU5.out
          have HCL := Lib.hid hcl; have HRAW := Lib.hid hraw; have HROW := Lib.hid hrow
          have hsz4 : w.heap.size ≤ w4.heap.size := HB4.out.size
          have HFL : Hid (F.length ≤ 20) := Lib.hid (by have := HTL.out; omega)
          clear hb4 ha5 HU3 HV3 HP3 HQ3 hcl hraw hrow
          unfold edV
          go_wp2_with (at_builtin; go_must (refine wpList_append_own _ rfl _ _ 24 rfl w.heap.size 31 i1 _ 5 72 Try.underlying24 hi1 hy0 hy1 hy2 rfl (by decide) _ _ _ rfl HRAW.out ⟨w4.heap.size, 0, none⟩ 1 1 [.slice po x.add.length pc, .slice qo x.drop.length qc, .int .u64 (x.log : Nat), .int .u64 (x.seq : Nat), .int .u64 (x.next : Nat)] rfl rfl (World.news_of_block (cs := #[_, _, _, _, _]) (fr := (0, 0)) (heap_alloc_new w4 _)) ?c2 ?c3 ?c4 ?c5 ?_))
          case c2 => intro u hu; simp at hu; rcases hu with hu | hu | hu | hu | hu <;> subst hu <;> rfl
          case c3 => have := HFL.out; unfold maxLen; omega
          case c4 => have := HFL.out; omega
          case c5 => simp; omega
          intro v6 w6 hown6 hgrow6 _
          have HU6 : Hid (OwnsEs w6 w.heap.size 31 v6 (F ++ [x])) := Lib.hid (OwnsEs.snoc HCL.out HROW.out ⟨po, pc, qo, qc, rfl, HP5.out, HQ5.out⟩ HRAW.out hown6 hgrow6 (by decide) (by decide))
          have HV6 : Hid (OwnsEs w6 w.heap.size 30 (.slice to F.length tc) F) := Lib.hid (HV5.out.grown hgrow6 (own_of HRAW.out (by decide)) (own_of HRAW.out (by decide)) (own_of HRAW.out (by decide)))
          have HB6 : Hid (Below w.heap.size w w6) := Lib.hid (HB5.out.grown hgrow6 (by simp; omega) (fun z hz => (World.ownsRow.lt HRAW.out z hz).1))
          clear hown6 hgrow6 HU5 HV5 HP5 HQ5 HCL HRAW HROW hsz4
          obtain ⟨c0, c1, c2, c3, c4⟩ := HCC.out _ HB6.out
          go_wp2_with fail
          refine (HCO.out _ HB6.out).mono ?_
          rintro r w7 ⟨po2, pc2, qo2, qc2, rfl, h71, h72, hb7⟩
          have HB7 : Hid (Below w.heap.size w w7) := Lib.hid (Below.next HB6.out hb7)
          have ha8 : Below w7.heap.size w7 (w7.alloc (.cells #[.slice po2 x.add.length pc2, .slice qo2 x.drop.length qc2, .int .u64 (x.log : Nat), .int .u64 (x.seq : Nat), .int .u64 (x.next : Nat)] 30)) := (Below.refl _ _).alloc (Nat.le_refl _) _
          have HB8 : Hid (Below w.heap.size w (w7.alloc (.cells #[.slice po2 x.add.length pc2, .slice qo2 x.drop.length qc2, .int .u64 (x.log : Nat), .int .u64 (x.seq : Nat), .int .u64 (x.next : Nat)] 30))) := Lib.hid (Below.next HB7.out ha8)
          have HU8 : Hid (OwnsEs (w7.alloc (.cells #[.slice po2 x.add.length pc2, .slice qo2 x.drop.length qc2, .int .u64 (x.log : Nat), .int .u64 (x.seq : Nat), .int .u64 (x.next : Nat)] 30)) w.heap.size 31 v6 (F ++ [x])) := Lib.hid ((HU6.out.below hb7).below ha8)
          have HV8 : Hid (OwnsEs (w7.alloc (.cells #[.slice po2 x.add.length pc2, .slice qo2 x.drop.length qc2, .int .u64 (x.log : Nat), .int .u64 (x.seq : Nat), .int .u64 (x.next : Nat)] 30)) w.heap.size 30 (.slice to F.length tc) F) := Lib.hid ((HV6.out.below hb7).below ha8)
          have HP8 : Hid (OwnsTb (w7.alloc (.cells #[.slice po2 x.add.length pc2, .slice qo2 x.drop.length qc2, .int .u64 (x.log : Nat), .int .u64 (x.seq : Nat), .int .u64 (x.next : Nat)] 30)) w.heap.size (.slice po2 x.add.length pc2) x.add) := Lib.hid ((h71.low HB6.out.size).below ha8)
          have HQ8 : Hid (OwnsN (w7.alloc (.cells #[.slice po2 x.add.length pc2, .slice qo2 x.drop.length qc2, .int .u64 (x.log : Nat), .int .u64 (x.seq : Nat), .int .u64 (x.next : Nat)] 30)) w.heap.size (.slice qo2 x.drop.length qc2) x.drop) := Lib.hid ((h72.low HB6.out.size).below ha8)
          obtain ⟨css, hcl, hraw, hrow⟩ := HV8.out
          have HCL := Lib.hid hcl; have HRAW := Lib.hid hraw; have HROW := Lib.hid hrow
          have hsz7 : w.heap.size ≤ w7.heap.size := HB7.out.size
          clear hb7 ha8 HU6 HV6 hcl hraw hrow h71 h72 c0 c1 c2 c3 c4
          unfold edV
          go_wp2_with (at_builtin; go_must (refine wpList_append_own _ rfl _ _ 22 rfl w.heap.size 30 i0 _ 5 72 Try.underlying22 hi hz0 hz1 hz2 rfl (by decide) _ _ _ rfl HRAW.out ⟨w7.heap.size, 0, none⟩ 1 1 [.slice po2 x.add.length pc2, .slice qo2 x.drop.length qc2, .int .u64 (x.log : Nat), .int .u64 (x.seq : Nat), .int .u64 (x.next : Nat)] rfl rfl (World.news_of_block (cs := #[_, _, _, _, _]) (fr := (0, 0)) (heap_alloc_new w7 _)) ?d2 ?d3 ?d4 ?d5 ?_))
          case d2 => intro u hu; simp at hu; rcases hu with hu | hu | hu | hu | hu <;> subst hu <;> rfl
          case d3 => have := HFL.out; unfold maxLen; omega
          case d4 => have := HFL.out; omega
          case d5 => simp; omega
          intro v9 w9 hown9 hgrow9 _
          have R1 : Hid (OwnsEs w9 w.heap.size 30 v9 (F ++ [x])) := Lib.hid (OwnsEs.snoc HCL.out HROW.out ⟨po2, pc2, qo2, qc2, rfl, HP8.out, HQ8.out⟩ HRAW.out hown9 hgrow9 (by decide) (by decide))
          have R2 : Hid (OwnsEs w9 w.heap.size 31 v6 (F ++ [x])) := Lib.hid (HU8.out.grown hgrow9 (own_of HRAW.out (by decide)) (own_of HRAW.out (by decide)) (own_of HRAW.out (by decide)))
          have R3 : Hid (Below w.heap.size w w9) := Lib.hid (HB8.out.grown hgrow9 (by simp; omega) (fun z hz => (World.ownsRow.lt HRAW.out z hz).1))
          clear hown9 hgrow9 HU8 HV8 HP8 HQ8 HCL HRAW HROW hsz7
          rw [← HTK.out] at R1 R2
          go_wp2_with fail
          go_roundw
          case rel => exact ⟨k + 1, by omega, by go_num, R2.out, R1.out, HG2.out, R3.out⟩
          case measure => simp [intOf]; omega
      · obtain rfl : k = an := by omega
        have HTE : Hid (es.take k = es) := Lib.hid (List.take_of_length_le (by rw [HAL.out]; exact Nat.le_refl _))
        have hTE := HTE.out
        rw [hTE] at HU HV
        rw [hTE]
        have HBD : Hid (∀ e ∈ es, greatE e.add e.drop = false) := Lib.hid (fun e he => by
          obtain ⟨i, hi, rfl⟩ := mem_getD (d := edd) he
          exact HNG.out i (by rw [HAL.out] at hi; exact hi))
        have HC : Hid (Ed.Calm es) := Lib.hid ⟨by rw [HAL.out]; omega, fun e he => by
          obtain ⟨a1, a2, a3⟩ := greatE_no (HBD.out e he)
          exact ⟨by omega, by omega, (HI.out _ he).1, fun t ht => by obtain ⟨b1, b2⟩ := a3 t ht; omega⟩⟩
        have HLL : Hid (∀ e ∈ es, e.add.length ≤ 60 ∧ e.drop.length ≤ 60) := Lib.hid (fun e he => by
          obtain ⟨a1, a2, a3⟩ := greatE_no (HBD.out e he)
          exact ⟨a1, a2⟩)
        have HJL : Hid ((Ed.join es).add.length ≤ 1200 ∧ (Ed.join es).drop.length ≤ 1200) := Lib.hid (by
          have := Ed.join_len HLL.out
          rw [HAL.out] at this; omega)
        have hel : es.length = k := HAL.out
        have hel20 : es.length ≤ 20 := by omega
        clear hTE HTE HNG hu hv hng hbel
        have HW0 : Hid (Below w.heap.size w wr) := HBE
        have HSV : Hid (SeesEd wr (.slice to es.length tc) es) := Lib.hid HV.out.sees
        have HSU : Hid (SeesEd wr (.slice so es.length sc) es) := Lib.hid HU.out.sees
        have HJO : Hid (Calls Try.prog 15 #[.slice to es.length tc] wr (EdMade (Ed.join es) wr)) := Lib.hid (join_any to es.length tc es wr HSV.out HC.out)
        have HRJ : Hid (∀ W, Below wr.heap.size wr W → Calls Try.prog 16 #[.slice so es.length sc] W (EdSeen (Ed.join es) W)) := Lib.hid (fun W hb => refJoin_any so es.length sc es W (HSU.out.below hb) hel20 HLL.out)
        rw [hel] at HJO HRJ HSV HSU
        clear hel20 HC HLL
        go_wp2_with fail
        refine HJO.out.mono ?_
        rintro r w1 ⟨jo, jc, ko, kc, rfl, hj1, hj2, hb1⟩
        generalize Ed.join es = D at *
        have HB1 := Lib.hid hb1
        have HJ1 := Lib.hid hj1; have HJ2 := Lib.hid hj2
        clear hb1 hj1 hj2 HJO HU HV
        unfold edV
        go_wp2_with fail
        have ha2 : Below w1.heap.size w1 (w1.alloc (.cells #[.slice jo D.add.length jc, .slice ko D.drop.length kc, .int .u64 (D.log : Nat), .int .u64 (D.seq : Nat), .int .u64 (D.next : Nat)] 30)) := (Below.refl _ _).alloc (Nat.le_refl _) _
        have hx2 : Ex (w1.alloc (.cells #[.slice jo D.add.length jc, .slice ko D.drop.length kc, .int .u64 (D.log : Nat), .int .u64 (D.seq : Nat), .int .u64 (D.next : Nat)] 30)) w1.heap.size (.slice jo D.add.length jc) (.slice ko D.drop.length kc) D.log D.seq D.next := heap_alloc_new _ _
        have HX2 := Lib.hid hx2
        have HB2 : Hid (Below wr.heap.size wr (w1.alloc (.cells #[.slice jo D.add.length jc, .slice ko D.drop.length kc, .int .u64 (D.log : Nat), .int .u64 (D.seq : Nat), .int .u64 (D.next : Nat)] 30))) := Lib.hid (Below.next HB1.out ha2)
        have HJ12 : Hid (OwnsTb (w1.alloc (.cells #[.slice jo D.add.length jc, .slice ko D.drop.length kc, .int .u64 (D.log : Nat), .int .u64 (D.seq : Nat), .int .u64 (D.next : Nat)] 30)) wr.heap.size (.slice jo D.add.length jc) D.add) := Lib.hid (HJ1.out.below ha2)
        have HJ22 : Hid (OwnsN (w1.alloc (.cells #[.slice jo D.add.length jc, .slice ko D.drop.length kc, .int .u64 (D.log : Nat), .int .u64 (D.seq : Nat), .int .u64 (D.next : Nat)] 30)) wr.heap.size (.slice ko D.drop.length kc) D.drop) := Lib.hid (HJ2.out.below ha2)
        clear ha2 hx2 HJ1 HJ2
        refine (HRJ.out _ HB2.out).mono ?_
        rintro r w3 ⟨ro, rc, vo, vc, rfl, h31, h32, hb3⟩
        have HX3 : Hid (Ex w3 w1.heap.size (.slice jo D.add.length jc) (.slice ko D.drop.length kc) D.log D.seq D.next) := Lib.hid (kept_block HX2.out hb3)
        have HB3 : Hid (Below wr.heap.size wr w3) := Lib.hid (Below.next HB2.out hb3)
        have HJ13 : Hid (OwnsTb w3 wr.heap.size (.slice jo D.add.length jc) D.add) := Lib.hid (HJ12.out.below hb3)
        have HJ23 : Hid (OwnsN w3 wr.heap.size (.slice ko D.drop.length kc) D.drop) := Lib.hid (HJ22.out.below hb3)
        have H31 := Lib.hid h31; have H32 := Lib.hid h32
        clear hb3 h31 h32 HX2 HB2 HJ12 HJ22 HRJ HB1
        unfold edV
        go_wp2_with fail
        have ha4 : Below w3.heap.size w3 (w3.alloc (.cells #[.slice ro D.add.length rc, .slice vo D.drop.length vc, .int .u64 (D.log : Nat), .int .u64 (D.seq : Nat), .int .u64 (D.next : Nat)] 31)) := (Below.refl _ _).alloc (Nat.le_refl _) _
        have hw4 : Ez (w3.alloc (.cells #[.slice ro D.add.length rc, .slice vo D.drop.length vc, .int .u64 (D.log : Nat), .int .u64 (D.seq : Nat), .int .u64 (D.next : Nat)] 31)) w3.heap.size (.slice ro D.add.length rc) (.slice vo D.drop.length vc) D.log D.seq D.next := heap_alloc_new _ _
        have hx4 : Ex (w3.alloc (.cells #[.slice ro D.add.length rc, .slice vo D.drop.length vc, .int .u64 (D.log : Nat), .int .u64 (D.seq : Nat), .int .u64 (D.next : Nat)] 31)) w1.heap.size (.slice jo D.add.length jc) (.slice ko D.drop.length kc) D.log D.seq D.next := kept_block HX3.out ha4
        have HB4 : Hid (Below wr.heap.size wr (w3.alloc (.cells #[.slice ro D.add.length rc, .slice vo D.drop.length vc, .int .u64 (D.log : Nat), .int .u64 (D.seq : Nat), .int .u64 (D.next : Nat)] 31))) := Lib.hid (Below.next HB3.out ha4)
        have HJ14 : Hid (OwnsTb (w3.alloc (.cells #[.slice ro D.add.length rc, .slice vo D.drop.length vc, .int .u64 (D.log : Nat), .int .u64 (D.seq : Nat), .int .u64 (D.next : Nat)] 31)) wr.heap.size (.slice jo D.add.length jc) D.add) := Lib.hid (HJ13.out.below ha4)
        have HJ24 : Hid (OwnsN (w3.alloc (.cells #[.slice ro D.add.length rc, .slice vo D.drop.length vc, .int .u64 (D.log : Nat), .int .u64 (D.seq : Nat), .int .u64 (D.next : Nat)] 31)) wr.heap.size (.slice ko D.drop.length kc) D.drop) := Lib.hid (HJ23.out.below ha4)
        have H41 : Hid (SeesTb (w3.alloc (.cells #[.slice ro D.add.length rc, .slice vo D.drop.length vc, .int .u64 (D.log : Nat), .int .u64 (D.seq : Nat), .int .u64 (D.next : Nat)] 31)) (.slice ro D.add.length rc) D.add) := Lib.hid (H31.out.below ha4)
        have H42 : Hid (SeesU (w3.alloc (.cells #[.slice ro D.add.length rc, .slice vo D.drop.length vc, .int .u64 (D.log : Nat), .int .u64 (D.seq : Nat), .int .u64 (D.next : Nat)] 31)) (.slice vo D.drop.length vc) D.drop) := Lib.hid (H32.out.below ha4)
        clear ha4 HX3 HB3 HJ13 HJ23 H31 H32
        generalize (w3.alloc (.cells #[.slice ro D.add.length rc, .slice vo D.drop.length vc, .int .u64 (D.log : Nat), .int .u64 (D.seq : Nat), .int .u64 (D.next : Nat)] 31)) = W4 at *
        have HX4 := Lib.hid hx4
        have HW4 : Hid (Ez W4.drew w3.heap.size (.slice ro D.add.length rc) (.slice vo D.drop.length vc) D.log D.seq D.next) := Lib.hid hw4
        obtain ⟨x0, x1, x2, x3, x4, xf, xlt⟩ := (show Ex W4.drew _ _ _ _ _ _ from hx4).of
        obtain ⟨y0, y1, y2, y3, y4, yf, ylt⟩ := (show Ez W4.drew _ _ _ _ _ _ from hw4).of
        have HGV : Hid (∀ W, Calls Try.prog 13 #[.agg #[.slice jo D.add.length jc, .slice ko D.drop.length kc, .int .u64 (D.log : Nat), .int .u64 (D.seq : Nat), .int .u64 (D.next : Nat)]] W (Gives (.agg #[.slice jo D.add.length jc, .slice ko D.drop.length kc, .int .u64 (D.log : Nat), .int .u64 (D.seq : Nat), .int .u64 (D.next : Nat)]) W)) := Lib.hid (fun W => given_any jo D.add.length jc ko D.drop.length kc D.log D.seq D.next W)
        have HSM : Hid (∀ W, Below W4.drew.heap.size W4.drew W → Calls Try.prog 17 #[.agg #[.slice jo D.add.length jc, .slice ko D.drop.length kc, .int .u64 (D.log : Nat), .int .u64 (D.seq : Nat), .int .u64 (D.next : Nat)], .agg #[.slice ro D.add.length rc, .slice vo D.drop.length vc, .int .u64 (D.log : Nat), .int .u64 (D.seq : Nat), .int .u64 (D.next : Nat)]] W (Gives (.bool true) W)) := Lib.hid (fun W hb => by
          have hb0 : Below W4.heap.size W4 W := ⟨hb.os, hb.tape, hb.output, hb.size, hb.block⟩
          exact same_yes jo ro D.add.length jc rc ko vo D.drop.length kc vc D W (HJ14.out.sees.below hb0) (HJ24.out.sees.below hb0) (H41.out.below hb0) (H42.out.below hb0) (by have := HJL.out; omega) (by have := HJL.out; omega))
        clear hx4 hw4 H41 H42 xf yf
        go_region_law (first
          | (go_simp; go_at_call 13; (with_reducible refine (HGV.out _).mono ?_); rintro e wA ⟨rfl, hbA⟩; obtain ⟨z0, z1, z2, z3, z4, zf, zlt⟩ := Ez.of (kept_block HW4.out hbA))
          | (go_simp; go_at_call 17; (with_reducible refine (HSM.out _ hbA).mono ?_); rintro e wB ⟨rfl, hbB⟩))
        all_goals
          have HXB : Hid (Ex wB w1.heap.size (.slice jo D.add.length jc) (.slice ko D.drop.length kc) D.log D.seq D.next) := Lib.hid (kept_block (kept_block (show Ex W4.drew _ _ _ _ _ _ from HX4.out) hbA) hbB)
          have hb0 : Below W4.heap.size W4 wB := by
            have h := Below.next hbA hbB
            exact ⟨h.os, h.tape, h.output, h.size, h.block⟩
          have HBB : Hid (Below wr.heap.size wr wB) := Lib.hid (Below.next HB4.out hb0)
          have HR1 : Hid (Rowed wB wr.heap.size 38 8 D.add.length jo) := Lib.hid ((Rowed.of HJ14.out).kept hb0)
          have HR2 : Hid (Rowed wB wr.heap.size 28 1 D.drop.length ko) := Lib.hid ((Rowed.of HJ24.out).kept hb0)
          clear hbA hbB hb0 x0 x1 x2 x3 x4 xlt y0 y1 y2 y3 y4 ylt HX4 HW4 HB4 HJ14 HJ24 HGV HSM
          go_wp2_with fail
          obtain ⟨W0, hW0⟩ : ∃ W0, W0 = wr := ⟨_, rfl⟩
          subst hW0
          obtain ⟨-, gb, og, hsg⟩ := HSV.out.get
          have HSG := Lib.hid hsg
          clear hsg
          have hda := HJL.out.1
          have hdd := HJL.out.2
          go_loopw [8] (fun i w5 => ∃ q : Nat, q ≤ D.add.length ∧ i = .int .i64 q ∧ Ex w5 w1.heap.size (.slice jo D.add.length jc) (.slice ko D.drop.length kc) D.log D.seq D.next ∧ Below W0.heap.size W0 w5 ∧ Rowed w5 W0.heap.size 38 8 D.add.length jo ∧ Rowed w5 W0.heap.size 28 1 D.drop.length ko) (fun i _ => D.add.length - (intOf i).toNat)
          case atStart => exact ⟨0, Nat.zero_le _, rfl, HXB.out, HBB.out, HR1.out, HR2.out⟩
          case round =>
            obtain ⟨q, hq, rfl, hex, hbel, hr1, hr2⟩ := hrel
            clear HXB HBB HR1 HR2
            have HEX := Lib.hid hex; have HBE := Lib.hid hbel; have HR1 := Lib.hid hr1; have HR2 := Lib.hid hr2
            obtain ⟨x0, x1, x2, x3, x4, xf, xlt⟩ := hex.of
            by_cases hlt : q < D.add.length
            · have HLT := Lib.hid hlt
              obtain ⟨g, cur, rfl, hg1, hg2, hg3⟩ := hr1 (by omega)
              obtain ⟨u, hcu⟩ := cell_some (o := q * 8) hg2 (by omega)
              have hfu := Sk.unfrozen_of hg2 (q * 8)
              have hne : w1.heap.size ≠ g := Sk.obj_cells_ne hex hg2 (by decide)
              have hex' : Ex (wr.setCell ⟨g, q * 8, none⟩ (.int .u64 77)) w1.heap.size (.slice (some ⟨g, 0, none⟩) D.add.length jc) (.slice ko D.drop.length kc) D.log D.seq D.next := (Sk.setCell_kept wr ⟨g, q * 8, none⟩ (.int .u64 77) hne).trans hex
              have HEX2 := Lib.hid hex'
              have HBE2 : Hid (Below W0.heap.size W0 (wr.setCell ⟨g, q * 8, none⟩ (.int .u64 77))) := Lib.hid (hbel.setCell hg1 _)
              have HR12 := Lib.hid (hr1.set g (q * 8) (.int .u64 77)); have HR22 := Lib.hid (hr2.set g (q * 8) (.int .u64 77))
              have hgl := Sk.heap_lt hg2
              clear hex hbel hr1 hr2 hg2 hg3 hex' hne xf
              go_wp2_with fail
              go_roundw
              case rel => exact ⟨q + 1, by have := HLT.out; omega, by go_num, HEX2.out, HBE2.out, HR12.out, HR22.out⟩
              case measure => have := HLT.out; simp [intOf]; omega
            · go_wp2_with fail
              go_loopw [9] (fun i w5 => ∃ q : Nat, q ≤ D.drop.length ∧ i = .int .i64 q ∧ Ex w5 w1.heap.size (.slice jo D.add.length jc) (.slice ko D.drop.length kc) D.log D.seq D.next ∧ Below W0.heap.size W0 w5 ∧ Rowed w5 W0.heap.size 28 1 D.drop.length ko) (fun i _ => D.drop.length - (intOf i).toNat)
              case atStart => exact ⟨0, Nat.zero_le _, rfl, HEX.out, HBE.out, HR2.out⟩
              case round =>
                clear x0 x1 x2 x3 x4 xf xlt hex hbel hr1 hr2 HEX HBE HR1 HR2
                obtain ⟨q2, hq2, rfl, hex, hbel, hr2⟩ := hrel
                have HBE := Lib.hid hbel
                obtain ⟨x0, x1, x2, x3, x4, xf, xlt⟩ := hex.of
                by_cases hlt2 : q2 < D.drop.length
                · have HLT2 := Lib.hid hlt2
                  obtain ⟨g, cur, rfl, hg1, hg2, hg3⟩ := hr2 (by omega)
                  obtain ⟨u, hcu⟩ := cell_some (o := q2) hg2 (by omega)
                  have hfu := Sk.unfrozen_of hg2 q2
                  have hne : w1.heap.size ≠ g := Sk.obj_cells_ne hex hg2 (by decide)
                  have hex' : Ex (wr.setCell ⟨g, q2, none⟩ (.int .u64 78)) w1.heap.size (.slice jo D.add.length jc) (.slice (some ⟨g, 0, none⟩) D.drop.length kc) D.log D.seq D.next := (Sk.setCell_kept wr ⟨g, q2, none⟩ (.int .u64 78) hne).trans hex
                  have HEX2 := Lib.hid hex'
                  have HBE2 : Hid (Below W0.heap.size W0 (wr.setCell ⟨g, q2, none⟩ (.int .u64 78))) := Lib.hid (hbel.setCell hg1 _)
                  have HR22 := Lib.hid (hr2.set g q2 (.int .u64 78))
                  have hgl := Sk.heap_lt hg2
                  clear hex hbel hr2 hg2 hg3 hex' hne xf
                  go_wp2_with fail
                  go_roundw
                  case rel => exact ⟨q2 + 1, by have := HLT2.out; omega, by go_num, HEX2.out, HBE2.out, HR22.out⟩
                  case measure => have := HLT2.out; simp [intOf]; omega
                · clear hex hbel hr2 xf
                  go_wp2_with fail
                  go_loopw [10] (fun i w5 => ∃ q : Nat, q ≤ k ∧ i = .int .i64 q ∧ Below W0.heap.size W0 w5) (fun i _ => k - (intOf i).toNat)
                  case atStart => exact ⟨0, Nat.zero_le _, rfl, HBE.out⟩
                  case round =>
                    clear x0 x1 x2 x3 x4 xlt HBE
                    obtain ⟨q3, hq3, rfl, hbel⟩ := hrel
                    have HBE := Lib.hid hbel
                    by_cases hlt3 : q3 < k
                    · have HLT3 := Lib.hid hlt3
                      obtain ⟨rfl, hgb, po, pn, pc, qo, qn, qc, u0, u1, u2, u3, u4, hPA, hPD⟩ := HSG.out q3 hlt3
                      obtain ⟨rfl, hbl, xo, xn, xc, yo, yn, yc, c0, c1, c2, c3, c4, hA, hD⟩ := HAC.out q3 hlt3
                      have hqe : es.getD q3 edd ∈ es := ed_mem (by rw [HAL.out]; exact hlt3)
                      have hsm := greatE_no (HBD.out _ hqe)
                      generalize es.getD q3 edd = x at *
                      have hxal := hA.get.1
                      have hxdl := hD.get.1
                      have hpal := hPA.get.1
                      have hpdl := hPD.get.1
                      obtain rfl : pn = xn := by omega
                      obtain rfl : qn = yn := by omega
                      have HCC : Hid (∀ W, Below wr.drew.heap.size wr.drew W → (W.cell? ⟨gb, og + q3 * 5, none⟩ = some (.slice po pn pc) ∧ W.cell? ⟨gb, og + q3 * 5 + 1, none⟩ = some (.slice qo qn qc) ∧ W.cell? ⟨gb, og + q3 * 5 + 2, none⟩ = some (.int .u64 (x.log : Nat)) ∧ W.cell? ⟨gb, og + q3 * 5 + 3, none⟩ = some (.int .u64 (x.seq : Nat)) ∧ W.cell? ⟨gb, og + q3 * 5 + 4, none⟩ = some (.int .u64 (x.next : Nat))) ∧ W.cell? ⟨ba, oa + q3 * 5, none⟩ = some (.slice xo pn xc) ∧ W.cell? ⟨ba, oa + q3 * 5 + 1, none⟩ = some (.slice yo qn yc) ∧ W.cell? ⟨ba, oa + q3 * 5 + 2, none⟩ = some (.int .u64 (x.log : Nat)) ∧ W.cell? ⟨ba, oa + q3 * 5 + 3, none⟩ = some (.int .u64 (x.seq : Nat)) ∧ W.cell? ⟨ba, oa + q3 * 5 + 4, none⟩ = some (.int .u64 (x.next : Nat))) := Lib.hid (fun W hb => by
                        have hb0 : Below wr.heap.size wr W := ⟨hb.os, hb.tape, hb.output, hb.size, hb.block⟩
                        have hbW : Below W0.heap.size W0 W := Below.next HBE.out hb0
                        have hbw : Below w.heap.size w W := Below.next HW0.out hbW
                        have e : ∀ o, W.cell? ⟨gb, o, none⟩ = W0.cell? ⟨gb, o, none⟩ := fun o => hbW.cell (p := ⟨gb, o, none⟩) hgb
                        have e2 : ∀ o, W.cell? ⟨ba, o, none⟩ = w.cell? ⟨ba, o, none⟩ := fun o => hbw.cell (p := ⟨ba, o, none⟩) hbl
                        rw [e, e, e, e, e, e2, e2, e2, e2, e2]
                        exact ⟨⟨u0, u1, u2, u3, u4⟩, c0, c1, c2, c3, c4⟩)
                      have HSM : Hid (∀ W, Below wr.drew.heap.size wr.drew W → Calls Try.prog 17 #[.agg #[.slice po pn pc, .slice qo qn qc, .int .u64 (x.log : Nat), .int .u64 (x.seq : Nat), .int .u64 (x.next : Nat)], .agg #[.slice xo pn xc, .slice yo qn yc, .int .u64 (x.log : Nat), .int .u64 (x.seq : Nat), .int .u64 (x.next : Nat)]] W (Gives (.bool true) W)) := Lib.hid (fun W hb => by
                        have hb0 : Below wr.heap.size wr W := ⟨hb.os, hb.tape, hb.output, hb.size, hb.block⟩
                        have hbW : Below W0.heap.size W0 W := Below.next HBE.out hb0
                        have hbw : Below w.heap.size w W := Below.next HW0.out hbW
                        exact same_yes po xo pn pc xc qo yo qn qc yc x W (hPA.below hbW) (hPD.below hbW) (hA.below hbw) (hD.below hbw) (by omega) (by omega))
                      have HGG : Hid (∀ ao an ac bo bn bc (lg sq nx : Nat) W, Calls Try.prog 13 #[.agg #[.slice ao an ac, .slice bo bn bc, .int .u64 (lg : Nat), .int .u64 (sq : Nat), .int .u64 (nx : Nat)]] W (Gives (.agg #[.slice ao an ac, .slice bo bn bc, .int .u64 (lg : Nat), .int .u64 (sq : Nat), .int .u64 (nx : Nat)]) W)) := Lib.hid (fun ao an ac bo bn bc lg sq nx W => given_any ao an ac bo bn bc lg sq nx W)
                      obtain ⟨⟨z0, z1, z2, z3, z4⟩, z5, z6, z7, z8, z9⟩ := HCC.out _ (Below.refl _ _)
                      clear u0 u1 u2 u3 u4 c0 c1 c2 c3 c4 hPA hPD hA hD hxal hxdl hpal hpdl hsm hqe hbel
                      go_wp2_with fail
                      go_region_law (first
                        | (fail_if_success (have _hz := hbA)
                           go_simp; go_at_call 13; (with_reducible refine (HGG.out _ _ _ _ _ _ _ _ _ _).mono ?_); rintro e wA ⟨rfl, hbA⟩; obtain ⟨⟨y0, y1, y2, y3, y4⟩, y5, y6, y7, y8, y9⟩ := HCC.out _ hbA)
                        | (have _hz := hbA
                           go_simp; go_at_call 13; (with_reducible refine (HGG.out _ _ _ _ _ _ _ _ _ _).mono ?_); rintro e wB ⟨rfl, hbB⟩)
                        | (go_simp; go_at_call 17; (with_reducible refine (HSM.out _ (Below.next hbA hbB)).mono ?_); rintro e wC ⟨rfl, hbC⟩))
                      all_goals
                        have RB : Hid (Below W0.heap.size W0 wC) := Lib.hid (by
                          have h := Below.next (Below.next hbA hbB) hbC
                          have h0 : Below wr.heap.size wr wC := ⟨h.os, h.tape, h.output, h.size, h.block⟩
                          exact Below.next HBE.out h0)
                        clear hbA hbB hbC z0 z1 z2 z3 z4 z5 z6 z7 z8 z9
                        go_wp2_with fail
                        go_roundw
                        case rel => exact ⟨q3 + 1, by have := HLT3.out; omega, by go_num, RB.out⟩
                        case measure => have := HLT3.out; simp [intOf]; omega
                    · go_wp2_with fail
                      refine (HAW.out _).mono ?_
                      rintro r w9 ⟨rfl, hb9⟩
                      have HB9 : Hid (Below w.heap.size w w9) := Lib.hid (Below.next (Below.next HW0.out HBE.out) hb9)
                      clear hb9
                      go_wp2_with fail
                      go_ret
                      exact ⟨rfl, HB9.out⟩

end Go.Proofs.Ytbdoekogoiijeaa
