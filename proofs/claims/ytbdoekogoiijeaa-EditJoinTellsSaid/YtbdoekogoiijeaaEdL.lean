/- The walk of edit.Join. -/
import Derived.Test.YtbdoekogoiijeaaEdK
namespace Go.Proofs.Ytbdoekogoiijeaa
open Go.RowKit Sk Go.Maps
set_option linter.unusedVariables false
set_option maxRecDepth 20000

/-- An edit of the call's own comes back. -/
def EdMade (d : Edt) (w : World) (e : Ending) (w' : World) : Prop := ∃ ao ac bo bc, e = .returned (edV ao d.add.length ac bo d.drop.length bc d.log d.seq d.next) ∧ OwnsTb w' w.heap.size (.slice ao d.add.length ac) d.add ∧ OwnsN w' w.heap.size (.slice bo d.drop.length bc) d.drop ∧ Below w.heap.size w w'

set_option maxHeartbeats 8000000 in
theorem join_any (ao : Option Addr) (an ac : Nat) (es : List Edt) (w : World) (hS : SeesEd w (.slice ao an ac) es) (hC : Ed.Calm es) :
    Calls Try.prog 15 #[.slice ao an ac] w (EdMade (Ed.join es) w) := by
  obtain ⟨hal, ba, oa, hac⟩ := hS.get
  have HC := Lib.hid hC
  have HS := Lib.hid hS
  obtain ⟨hc1, hc2⟩ := hC
  have HAC := Lib.hid hac; have HAL := Lib.hid hal; have HC2 := Lib.hid hc2
  have hal2 : an ≤ 100000 := by omega
  have HCO : Hid (∀ W, Below w.heap.size w W → Calls Try.prog 47 #[.slice ao an ac] W (fun e w' => ∃ v, e = .returned v ∧ OwnsTb w' W.heap.size v (Ed.coming es) ∧ Below W.heap.size W w')) := Lib.hid (fun W hb => coming_any ao an ac es W (HS.out.below hb) HC.out)
  have HGO : Hid (∀ W, Below w.heap.size w W → Calls Try.prog 48 #[.slice ao an ac] W (fun e w' => ∃ v, e = .returned v ∧ OwnsN w' W.heap.size v (Ed.going es) ∧ Below W.heap.size W w')) := Lib.hid (fun W hb => going_any ao an ac es W (HS.out.below hb) HC.out)
  have HB0 : Hid (∀ o, Below w.heap.size w (w.alloc o)) := Lib.hid (fun o => (Below.refl _ _).alloc (Nat.le_refl _) _)
  clear hac hal hc1 hc2 hS
  go_enter Try.func15, Try.ntmps15
  go_wp2_with fail
  refine (HCO.out _ (HB0.out _)).mono ?_
  rintro r w1 ⟨v1, rfl, ho1, hb1⟩
  have HR1 : Hid (Ex w1 w.heap.size (.slice none 0 0) (.slice none 0 0) 0 0 0) := Lib.hid (kept_block (heap_alloc_new _ _) hb1)
  have HB1 : Hid (Below w.heap.size w w1) := Lib.hid (Below.next (HB0.out _) hb1)
  have hz1 : w.heap.size < w1.heap.size := by have := hb1.size; simp at this; omega
  have HO1 : Hid (OwnsTb w1 (w.heap.size + 1) v1 (Ed.coming es)) := Lib.hid (by rw [World.size_alloc] at ho1; exact ho1)
  clear ho1 hb1
  go_wp2_with fail
  refine (HGO.out _ HB1.out).mono ?_
  rintro r w2 ⟨v2, rfl, ho2, hb2⟩
  have HR2 : Hid (Ex w2 w.heap.size (.slice none 0 0) (.slice none 0 0) 0 0 0) := Lib.hid (kept_block HR1.out hb2)
  have HB2 : Hid (Below w.heap.size w w2) := Lib.hid (Below.next HB1.out hb2)
  have hz2 : w.heap.size < w2.heap.size := by have := hb2.size; omega
  have HO2 : Hid (OwnsTb w2 (w.heap.size + 1) v1 (Ed.coming es)) := Lib.hid (HO1.out.below hb2)
  have HN2 : Hid (OwnsN w2 (w.heap.size + 1) v2 (Ed.going es)) := Lib.hid (ho2.mono hz1)
  clear ho2 hb2 HR1 HO1 HB1
  obtain ⟨xo, xc, rfl⟩ := HO2.out.slice
  obtain ⟨yo, yc, rfl⟩ := HN2.out.slice
  go_wp2_with fail
  have HJ : Hid (Ex (w2.alloc (.cells #[.slice xo (Ed.coming es).length xc, .slice yo (Ed.going es).length yc, .int .u64 0, .int .u64 0, .int .u64 0] 30)) w2.heap.size (.slice xo (Ed.coming es).length xc) (.slice yo (Ed.going es).length yc) 0 0 0) := Lib.hid (heap_alloc_new _ _)
  have HB3 : Hid (∀ o, Below w2.heap.size w2 (w2.alloc o)) := Lib.hid (fun o => (Below.refl _ _).alloc (Nat.le_refl _) _)
  go_loopw [13] (fun i wr => ∃ k : Nat, k ≤ an ∧ i = .int .i64 k ∧ Ex wr w2.heap.size (.slice xo (Ed.coming es).length xc) (.slice yo (Ed.going es).length yc) (Ed.tops Edt.log (es.take k)) (Ed.tops Edt.seq (es.take k)) (Ed.tops Edt.next (es.take k)) ∧ Below w2.heap.size w2 wr) (fun i _ => an - (intOf i).toNat)
  case atStart => exact ⟨0, Nat.zero_le _, rfl, HJ.out, HB3.out _⟩
  case round =>
    obtain ⟨k, hk, rfl, hex, hbel⟩ := hrel
    have hsz := hbel.size
    by_cases hlt : k < an
    · obtain ⟨rfl, hbl, hob⟩ := HAC.out k hlt
      have hkl : k < es.length := by rw [HAL.out]; exact hlt
      obtain ⟨po, pn, pc, qo, qn, qc, c0, c1, c2, c3, c4, hA, hD⟩ := hob
      have hbw : Below w.heap.size w wr := Below.next HB2.out hbel
      have c0 := (hbw.cell (p := ⟨ba, oa + k * 5, none⟩) hbl).trans c0
      have c1 := (hbw.cell (p := ⟨ba, oa + k * 5 + 1, none⟩) hbl).trans c1
      have c2 := (hbw.cell (p := ⟨ba, oa + k * 5 + 2, none⟩) hbl).trans c2
      have c3 := (hbw.cell (p := ⟨ba, oa + k * 5 + 3, none⟩) hbl).trans c3
      have c4 := (hbw.cell (p := ⟨ba, oa + k * 5 + 4, none⟩) hbl).trans c4
      have hbr : ba < wr.heap.size := by omega
      have HTK : Hid (es.take (k + 1) = es.take k ++ [es.getD k edd]) := Lib.hid (take_snocE es k hkl)
      clear hkl hA hD hbw
      generalize es.getD k edd = x at *
      have HX1 : Hid (∀ o, Ex (wr.alloc o) w2.heap.size (.slice xo (Ed.coming es).length xc) (.slice yo (Ed.going es).length yc) (Ed.tops Edt.log (es.take k)) (Ed.tops Edt.seq (es.take k)) (Ed.tops Edt.next (es.take k))) := Lib.hid (fun o => kept_block hex ((Below.refl _ _).alloc (Nat.le_refl _) _))
      have HNB : Hid (∀ o, Below w2.heap.size w2 (wr.alloc o)) := Lib.hid (fun o => Below.next_alloc hbel _)
      obtain ⟨a0, a1, a2, a3, a4, af, alt⟩ := (HX1.out (.cells #[.slice po pn pc, .slice qo qn qc, .int .u64 (x.log : Nat), .int .u64 (x.seq : Nat), .int .u64 (x.next : Nat)] 30)).of
      have hne : w2.heap.size ≠ wr.heap.size := by have := Sk.heap_lt hex; omega
      clear hex hbel
      have HMX : Hid (∀ a b : Nat, (max (a : Int) (b : Int)) = ((max a b : Nat) : Int)) := Lib.hid (fun a b => by omega)
      go_wp2_with fail
      rw [HMX.out, HMX.out, HMX.out]
      refine ⟨⟨k + 1, by omega, by go_num, ?_, ?_⟩, by simp [intOf]; omega⟩
      · rw [HTK.out, Ed.tops_snoc, Ed.tops_snoc, Ed.tops_snoc]
        have x2 : Ex _ w2.heap.size (.slice xo (Ed.coming es).length xc) (.slice yo (Ed.going es).length yc) (max (Ed.tops Edt.log (es.take k)) x.log) (Ed.tops Edt.seq (es.take k)) (Ed.tops Edt.next (es.take k)) := heap_setCell_same _ _ 2 _ _ (.int .u64 ((max (Ed.tops Edt.log (es.take k)) x.log : Nat) : Int)) (HX1.out (.cells #[.slice po pn pc, .slice qo qn qc, .int .u64 (x.log : Nat), .int .u64 (x.seq : Nat), .int .u64 (x.next : Nat)] 30))
        have x3 : Ex _ w2.heap.size (.slice xo (Ed.coming es).length xc) (.slice yo (Ed.going es).length yc) (max (Ed.tops Edt.log (es.take k)) x.log) (max (Ed.tops Edt.seq (es.take k)) x.seq) (Ed.tops Edt.next (es.take k)) := heap_setCell_same _ _ 3 _ _ (.int .u64 ((max (Ed.tops Edt.seq (es.take k)) x.seq : Nat) : Int)) x2
        have x4 : Ex _ w2.heap.size (.slice xo (Ed.coming es).length xc) (.slice yo (Ed.going es).length yc) (max (Ed.tops Edt.log (es.take k)) x.log) (max (Ed.tops Edt.seq (es.take k)) x.seq) (max (Ed.tops Edt.next (es.take k)) x.next) := heap_setCell_same _ _ 4 _ _ (.int .u64 ((max (Ed.tops Edt.next (es.take k)) x.next : Nat) : Int)) x3
        exact x4
      · exact (((HNB.out _).setCell (Nat.le_refl _) _).setCell (Nat.le_refl _) _).setCell (Nat.le_refl _) _
    · obtain rfl : k = an := by omega
      have HT : Hid (es.take k = es) := Lib.hid (List.take_of_length_le (by rw [HAL.out]; exact Nat.le_refl _))
      rw [HT.out] at hex
      have HXE := Lib.hid hex
      obtain ⟨a0, a1, a2, a3, a4, af, alt⟩ := hex.of
      have HRE : Hid (Ex wr w.heap.size (.slice none 0 0) (.slice none 0 0) 0 0 0) := Lib.hid (kept_block HR2.out hbel)
      have HO3 : Hid (OwnsTb wr (w.heap.size + 1) (.slice xo (Ed.coming es).length xc) (Ed.coming es)) := Lib.hid (HO2.out.below hbel)
      have HN3 : Hid (OwnsN wr (w.heap.size + 1) (.slice yo (Ed.going es).length yc) (Ed.going es)) := Lib.hid (HN2.out.below hbel)
      have HBE : Hid (Below w.heap.size w wr) := Lib.hid (Below.next HB2.out hbel)
      obtain ⟨r0, r1, r2, r3, r4, rf, rlt⟩ := HRE.out.of
      clear hex hbel
      go_wp2_with fail
      refine Ex.fill (P := bodyPost _ _ _ _ _) HRE.out (.slice xo (Ed.coming es).length xc) (.slice yo (Ed.going es).length yc) (Ed.tops Edt.log es) (Ed.tops Edt.seq es) (Ed.tops Edt.next es) ?_
      intro wF hF hTF
      have hsz0 : w.heap.size ≤ wr.heap.size := by omega
      have HFB : Hid (Below w.heap.size w wF) := Lib.hid (HBE.out.trans (hTF.to_below hsz0 (fun k hk => by rw [show k = w.heap.size from hk]; exact Nat.le_refl _)))
      have HF1 : Hid (OwnsTb wF w.heap.size (.slice xo (Ed.coming es).length xc) (Ed.coming es)) := Lib.hid ((HO3.out.turns hTF (Nat.lt_succ_self _)).mono (Nat.le_succ _))
      have HF2 : Hid (OwnsN wF w.heap.size (.slice yo (Ed.going es).length yc) (Ed.going es)) := Lib.hid ((HN3.out.turns hTF (Nat.lt_succ_self _)).mono (Nat.le_succ _))
      clear a0 a1 a2 a3 a4 af alt r0 r1 r2 r3 r4 rf rlt
      obtain ⟨r0, r1, r2, r3, r4, rf, rlt⟩ := hF.of
      exact bodyPost_ret (v := edV xo (Ed.coming es).length xc yo (Ed.going es).length yc (Ed.tops Edt.log es) (Ed.tops Edt.seq es) (Ed.tops Edt.next es)) (by simp [results, Try.results15, go_sem, edV, r0, r1, r2, r3, r4]) rfl ⟨xo, xc, yo, yc, rfl, HF1.out, HF2.out, HFB.out⟩

end Go.Proofs.Ytbdoekogoiijeaa
