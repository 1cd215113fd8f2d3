/- The document's Join: some edits joined. -/
import Derived.Test.YtbdoekogoiijeaaEdZ
namespace Go.Proofs.Ytbdoekogoiijeaa
open Go.RowKit Sk
set_option linter.unusedVariables false
set_option maxRecDepth 20000

/-- An edit lies in memory, and is told. -/
def EdSeen (d : Edt) (w : World) (e : Ending) (w' : World) : Prop := ∃ ao ac bo bc, e = .returned (edV ao d.add.length ac bo d.drop.length bc d.log d.seq d.next) ∧ SeesTb w' (.slice ao d.add.length ac) d.add ∧ SeesU w' (.slice bo d.drop.length bc) d.drop ∧ Below w.heap.size w w'
theorem Ed.two_len (a b : Edt) : (Ed.two a b).add.length ≤ a.add.length + b.add.length ∧ (Ed.two a b).drop.length ≤ a.drop.length + b.drop.length := by
  unfold Ed.two
  have h1 := List.length_filter_le (fun t : Tbl => !decide (t.n ∈ b.drop)) a.add
  have h2 := List.length_filter_le (fun n => !decide (n ∈ a.add.map Ed.tbNum)) b.drop
  simp only [List.length_append]
  omega
theorem Ed.join_one (e : Edt) : Ed.join [e] = e := by
  have := Ed.join_snoc [] e
  rw [List.nil_append, Ed.join_nil, Ed.two_first] at this
  exact this
theorem Ed.join_len {es : List Edt} {B : Nat} (h : ∀ e ∈ es, e.add.length ≤ B ∧ e.drop.length ≤ B) : (Ed.join es).add.length ≤ B * es.length ∧ (Ed.join es).drop.length ≤ B * es.length := by
  induction es using Ed.snoc_ind with
  | h0 => simp [Ed.join_nil, edd]
  | h1 l x ih =>
    have i1 := ih (fun e he => h e (List.mem_append.2 (Or.inl he)))
    have i2 := h x (List.mem_append.2 (Or.inr (List.mem_singleton.2 rfl)))
    rw [Ed.join_snoc, List.length_append, List.length_singleton, Nat.mul_add]
    have := Ed.two_len (Ed.join l) x
    omega

/-- What lay there, or is the call's own. -/
def SeeT (w W : World) (v : Value) (ts : List Tbl) : Prop := SeesTb w v ts ∨ OwnsTb W (w.heap.size + 2) v ts
def SeeN (w W : World) (v : Value) (ns : List Nat) : Prop := SeesU w v ns ∨ OwnsN W (w.heap.size + 2) v ns
theorem SeeT.sees {w W W' : World} {v : Value} {ts : List Tbl} (h : SeeT w W v ts) (hb : Below w.heap.size w W') (hb2 : Below W.heap.size W W') : SeesTb W' v ts := h.elim (fun h => h.below hb) (fun h => h.sees.below hb2)
theorem SeeN.sees {w W W' : World} {v : Value} {ns : List Nat} (h : SeeN w W v ns) (hb : Below w.heap.size w W') (hb2 : Below W.heap.size W W') : SeesU W' v ns := h.elim (fun h => h.below hb) (fun h => h.sees.below hb2)
set_option maxHeartbeats 4000000 in
theorem refJoin_any (ao : Option Addr) (an ac : Nat) (es : List Edt) (w : World) (hS : SeesEd w (.slice ao an ac) es) (hn : an ≤ 20) (hl : ∀ e ∈ es, e.add.length ≤ 60 ∧ e.drop.length ≤ 60) :
    Calls Try.prog 16 #[.slice ao an ac] w (EdSeen (Ed.join es) w) := by
  obtain ⟨hal, ba, oa, hac⟩ := hS.get
  have HAC := Lib.hid hac; have HAL := Lib.hid hal; have HL := Lib.hid hl; have HS := Lib.hid hS
  clear hac hal hl hS
  go_enter Try.func16, Try.ntmps16
  by_cases h0 : an = 0
  · subst h0
    have HE : Hid (es = []) := Lib.hid (List.eq_nil_of_length_eq_zero HAL.out)
    have hz : Ez (w.alloc (.cells #[.slice none 0 0, .slice none 0 0, .int .u64 0, .int .u64 0, .int .u64 0] 31)) w.heap.size (.slice none 0 0) (.slice none 0 0) 0 0 0 := heap_alloc_new _ _
    have hb : Below w.heap.size w (w.alloc (.cells #[.slice none 0 0, .slice none 0 0, .int .u64 0, .int .u64 0, .int .u64 0] 31)) := (Below.refl _ _).alloc (Nat.le_refl _) _
    obtain ⟨r0, r1, r2, r3, r4, rf, rlt⟩ := hz.of
    go_wp2_with fail
    refine bodyPost_ret (v := edV none 0 0 none 0 0 0 0 0) (by simp [results, Try.results16, go_sem, edV, r0, r1, r2, r3, r4]) rfl ?_
    rw [HE.out]
    exact ⟨none, 0, none, 0, rfl, Or.inl ⟨rfl, _, _, rfl⟩, Or.inl ⟨rfl, _, _, rfl⟩, hb⟩
  · have HAC2 := HAC
    obtain ⟨rfl, hbl, xo, xn, xc, yo, yn, yc, c0, c1, c2, c3, c4, hA, hD⟩ := HAC.out 0 (by omega)
    rw [Nat.zero_mul, Nat.add_zero] at c0 c1 c2 c3 c4
    have hb : Below w.heap.size w (w.alloc (.cells #[.slice none 0 0, .slice none 0 0, .int .u64 0, .int .u64 0, .int .u64 0] 31)) := (Below.refl _ _).alloc (Nat.le_refl _) _
    have hz : Ez (w.alloc (.cells #[.slice none 0 0, .slice none 0 0, .int .u64 0, .int .u64 0, .int .u64 0] 31)) w.heap.size (.slice none 0 0) (.slice none 0 0) 0 0 0 := heap_alloc_new _ _
    have HB0 := Lib.hid hb; have HZ0 := Lib.hid hz
    have c0 := (hb.cell (p := ⟨ba, oa, none⟩) hbl).trans c0
    have c1 := (hb.cell (p := ⟨ba, oa + 1, none⟩) hbl).trans c1
    have c2 := (hb.cell (p := ⟨ba, oa + 2, none⟩) hbl).trans c2
    have c3 := (hb.cell (p := ⟨ba, oa + 3, none⟩) hbl).trans c3
    have c4 := (hb.cell (p := ⟨ba, oa + 4, none⟩) hbl).trans c4
    have HA0 := Lib.hid hA; have HD0 := Lib.hid hD
    have hdec : ((an : Int) == 0) = false := by simpa using h0
    have hpos : 0 < an := by omega
    clear hA hD hz hb h0
    obtain ⟨X, hX⟩ : ∃ X, X = es.getD 0 edd := ⟨_, rfl⟩
    rw [← hX] at c2 c3 c4 HA0 HD0
    have HX := Lib.hid hX
    clear hX
    have HJ1 : Hid (Ed.join (es.take 1) = X) := Lib.hid (by
      have hl : 0 < es.length := by have := HAL.out; omega
      have e1 := take_snocE es 0 hl
      rw [List.take_zero, List.nil_append] at e1
      rw [e1, Ed.join_one, HX.out])
    have hxl := HA0.out.get.1
    have hyl := HD0.out.get.1
    rw [← hxl] at c0 HA0
    rw [← hyl] at c1 HD0
    clear hxl hyl
    go_wp2_with fail
    have hz2 : Ez ((w.alloc (.cells #[.slice none 0 0, .slice none 0 0, .int .u64 0, .int .u64 0, .int .u64 0] 31)).alloc (.cells #[.slice xo X.add.length xc, .slice yo X.drop.length yc, .int .u64 (X.log : Nat), .int .u64 (X.seq : Nat), .int .u64 (X.next : Nat)] 31)) (w.heap.size + 1) (.slice xo X.add.length xc) (.slice yo X.drop.length yc) X.log X.seq X.next := by
      have := heap_alloc_new (w.alloc (.cells #[.slice none 0 0, .slice none 0 0, .int .u64 0, .int .u64 0, .int .u64 0] 31)) (.cells #[.slice xo X.add.length xc, .slice yo X.drop.length yc, .int .u64 (X.log : Nat), .int .u64 (X.seq : Nat), .int .u64 (X.next : Nat)] 31)
      rw [World.size_alloc] at this
      exact this
    have hbb : Below (w.alloc (.cells #[.slice none 0 0, .slice none 0 0, .int .u64 0, .int .u64 0, .int .u64 0] 31)).heap.size (w.alloc (.cells #[.slice none 0 0, .slice none 0 0, .int .u64 0, .int .u64 0, .int .u64 0] 31)) ((w.alloc (.cells #[.slice none 0 0, .slice none 0 0, .int .u64 0, .int .u64 0, .int .u64 0] 31)).alloc (.cells #[.slice xo X.add.length xc, .slice yo X.drop.length yc, .int .u64 (X.log : Nat), .int .u64 (X.seq : Nat), .int .u64 (X.next : Nat)] 31)) := (Below.refl _ _).alloc (Nat.le_refl _) _
    have HI : Hid (∃ x1 x2 x3 x4, Ez ((w.alloc (.cells #[.slice none 0 0, .slice none 0 0, .int .u64 0, .int .u64 0, .int .u64 0] 31)).alloc (.cells #[.slice xo X.add.length xc, .slice yo X.drop.length yc, .int .u64 (X.log : Nat), .int .u64 (X.seq : Nat), .int .u64 (X.next : Nat)] 31)) w.heap.size (.slice none 0 0) (.slice none 0 0) 0 0 0 ∧ Ez ((w.alloc (.cells #[.slice none 0 0, .slice none 0 0, .int .u64 0, .int .u64 0, .int .u64 0] 31)).alloc (.cells #[.slice xo X.add.length xc, .slice yo X.drop.length yc, .int .u64 (X.log : Nat), .int .u64 (X.seq : Nat), .int .u64 (X.next : Nat)] 31)) (w.heap.size + 1) (.slice x1 X.add.length x2) (.slice x3 X.drop.length x4) X.log X.seq X.next ∧ SeeT w ((w.alloc (.cells #[.slice none 0 0, .slice none 0 0, .int .u64 0, .int .u64 0, .int .u64 0] 31)).alloc (.cells #[.slice xo X.add.length xc, .slice yo X.drop.length yc, .int .u64 (X.log : Nat), .int .u64 (X.seq : Nat), .int .u64 (X.next : Nat)] 31)) (.slice x1 X.add.length x2) X.add ∧ SeeN w ((w.alloc (.cells #[.slice none 0 0, .slice none 0 0, .int .u64 0, .int .u64 0, .int .u64 0] 31)).alloc (.cells #[.slice xo X.add.length xc, .slice yo X.drop.length yc, .int .u64 (X.log : Nat), .int .u64 (X.seq : Nat), .int .u64 (X.next : Nat)] 31)) (.slice x3 X.drop.length x4) X.drop ∧ Below w.heap.size w ((w.alloc (.cells #[.slice none 0 0, .slice none 0 0, .int .u64 0, .int .u64 0, .int .u64 0] 31)).alloc (.cells #[.slice xo X.add.length xc, .slice yo X.drop.length yc, .int .u64 (X.log : Nat), .int .u64 (X.seq : Nat), .int .u64 (X.next : Nat)] 31))) := Lib.hid ⟨xo, xc, yo, yc, kept_block HZ0.out hbb, hz2, Or.inl HA0.out, Or.inl HD0.out, Below.next HB0.out hbb⟩
    clear hz2 hbb c0 c1 c2 c3 c4 HA0 HD0 HZ0 HB0 HX
    obtain ⟨W0, hW0⟩ : ∃ W0, W0 = (w.alloc (.cells #[.slice none 0 0, .slice none 0 0, .int .u64 0, .int .u64 0, .int .u64 0] 31)).alloc (.cells #[.slice xo X.add.length xc, .slice yo X.drop.length yc, .int .u64 (X.log : Nat), .int .u64 (X.seq : Nat), .int .u64 (X.next : Nat)] 31) := ⟨_, rfl⟩
    rw [← hW0] at HI
    rw [← hW0]
    clear hW0
    go_loopw [4] (fun i wr => ∃ k : Nat, 1 ≤ k ∧ k ≤ an ∧ i = .int .i64 k ∧ ∃ xo xc yo yc, Ez wr w.heap.size (.slice none 0 0) (.slice none 0 0) 0 0 0 ∧ Ez wr (w.heap.size + 1) (.slice xo (Ed.join (es.take k)).add.length xc) (.slice yo (Ed.join (es.take k)).drop.length yc) (Ed.join (es.take k)).log (Ed.join (es.take k)).seq (Ed.join (es.take k)).next ∧ SeeT w wr (.slice xo (Ed.join (es.take k)).add.length xc) (Ed.join (es.take k)).add ∧ SeeN w wr (.slice yo (Ed.join (es.take k)).drop.length yc) (Ed.join (es.take k)).drop ∧ Below w.heap.size w wr) (fun i _ => an - (intOf i).toNat)
    case atStart => exact ⟨1, Nat.le_refl _, hpos, rfl, by rw [HJ1.out]; exact HI.out⟩
    case round =>
      clear HI hdec HJ1
      obtain ⟨k, hk1, hk, rfl, uo, uc, vo, vc, hr, ho, ht, hu, hbel⟩ := hrel
      have hsz := hbel.size
      by_cases hlt : k < an
      · obtain ⟨-, -, po, pn, pc, qo, qn, qc, c0, c1, c2, c3, c4, hA, hD⟩ := HAC2.out k hlt
        have hkl : k < es.length := by rw [HAL.out]; exact hlt
        have HTK : Hid (Ed.join (es.take (k + 1)) = Ed.two (Ed.join (es.take k)) (es.getD k edd)) := Lib.hid (by rw [take_snocE es k hkl, Ed.join_snoc])
        have hjl := Ed.join_len (es := es.take k) (B := 60) (fun e he => HL.out e (List.mem_of_mem_take he))
        have hkl2 : (es.take k).length ≤ 20 := by rw [List.length_take]; omega
        have hxl := HL.out _ (ed_mem hkl)
        have c0 := (hbel.drew.cell (p := ⟨ba, oa + k * 5, none⟩) hbl).trans c0
        have c1 := (hbel.drew.cell (p := ⟨ba, oa + k * 5 + 1, none⟩) hbl).trans c1
        have c2 := (hbel.drew.cell (p := ⟨ba, oa + k * 5 + 2, none⟩) hbl).trans c2
        have c3 := (hbel.drew.cell (p := ⟨ba, oa + k * 5 + 3, none⟩) hbl).trans c3
        have c4 := (hbel.drew.cell (p := ⟨ba, oa + k * 5 + 4, none⟩) hbl).trans c4
        obtain ⟨y0, y1, y2, y3, y4, yf, ylt⟩ := (show Ez wr.drew (w.heap.size + 1) _ _ _ _ _ from ho).of
        generalize es.getD k edd = x at *
        obtain ⟨T, hT⟩ : ∃ T, T = Ed.join (es.take (k + 1)) := ⟨_, rfl⟩
        have HTT := Lib.hid hT
        rw [← hT] at HTK
        clear hT
        generalize Ed.join (es.take k) = J at *
        have hpl := hA.get.1
        have hql := hD.get.1
        have HTW : Hid (∀ W, Below wr.drew.heap.size wr.drew W → Calls Try.prog 49 #[.agg #[.slice uo J.add.length uc, .slice vo J.drop.length vc, .int .u64 (J.log : Nat), .int .u64 (J.seq : Nat), .int .u64 (J.next : Nat)], .agg #[.slice po pn pc, .slice qo qn qc, .int .u64 (x.log : Nat), .int .u64 (x.seq : Nat), .int .u64 (x.next : Nat)]] W (EdMade T W)) := Lib.hid (fun W hb => by
          have hb0 : Below wr.heap.size wr W := ⟨hb.os, hb.tape, hb.output, hb.size, hb.block⟩
          have hbw : Below w.heap.size w W := Below.next hbel hb0
          rw [HTK.out]
          exact refTwo_any uo J.add.length uc vo J.drop.length vc po pn pc qo qn qc J x W (ht.sees hbw hb0) (hu.sees hbw hb0) (hA.below hbw) (hD.below hbw) (by omega) (by omega) (by omega) (by omega))
        have HR : Hid (Ez wr.drew w.heap.size (.slice none 0 0) (.slice none 0 0) 0 0 0) := Lib.hid hr
        have HO : Hid (Ez wr.drew (w.heap.size + 1) (.slice uo J.add.length uc) (.slice vo J.drop.length vc) J.log J.seq J.next) := Lib.hid ho
        have HBE := Lib.hid hbel
        have hbr : ba < wr.drew.heap.size := by show ba < wr.heap.size; omega
        clear hA hD hpl hql hxl hjl hkl hkl2 hr ho ht hu hbel HTK
        go_wp2_with fail
        go_region_law (go_simp; go_at_call 49; (with_reducible refine (HTW.out _ (Below.refl _ _)).mono ?_); rintro e w5 ⟨ro, rc, so, sc, rfl, h51, h52, h53⟩; unfold edV; obtain ⟨z0, z1, z2, z3, z4, zf, zlt⟩ := Ez.of (kept_block HO.out h53); have zf0 := zf 0; have zf1 := zf 1; have zf2 := zf 2; have zf3 := zf 3; have zf4 := zf 4)
        all_goals
          obtain ⟨wF, hF, hE, hT⟩ := Ez.fill (P := fun W => ∃ wF, wF = W ∧ Ez wF (w.heap.size + 1) (.slice ro T.add.length rc) (.slice so T.drop.length sc) T.log T.seq T.next ∧ Turns (At (w.heap.size + 1)) w5 wF) (kept_block HO.out h53) (.slice ro T.add.length rc) (.slice so T.drop.length sc) T.log T.seq T.next (fun wF h1 h2 => ⟨wF, rfl, h1, h2⟩)
          rw [← hF]
          have R1 := Lib.hid hE
          have R2 : Hid (Ez wF w.heap.size (.slice none 0 0) (.slice none 0 0) 0 0 0) := Lib.hid (by
            have h := kept_block HR.out h53
            exact (hT.block _ (Sk.heap_lt h) (by show ¬ _ = _; omega)).trans h)
          have hb5 : Below w.heap.size w w5 := Below.next HBE.out ⟨h53.os, h53.tape, h53.output, h53.size, h53.block⟩
          have R3 : Hid (Below w.heap.size w wF) := Lib.hid (hb5.trans (hT.to_below hb5.size (fun k hk => by rw [show k = w.heap.size + 1 from hk]; omega)))
          have hlt5 : w.heap.size + 1 < wr.drew.heap.size := Sk.heap_lt HO.out
          have hlt6 : w.heap.size + 2 ≤ wr.drew.heap.size := hlt5
          have R4 : Hid (SeeT w wF (.slice ro T.add.length rc) T.add) := Lib.hid (Or.inr ((OwnsTb.turns h51 hT hlt5).low hlt6))
          have R5 : Hid (SeeN w wF (.slice so T.drop.length sc) T.drop) := Lib.hid (Or.inr ((OwnsN.turns h52 hT hlt5).low hlt6))
          clear hF hE hT h51 h52 h53 hb5 hlt5 hlt6 z0 z1 z2 z3 z4 zf zlt zf0 zf1 zf2 zf3 zf4
          go_wp2_with fail
          refine ⟨⟨k + 1, by omega, by omega, by go_num, ?_⟩, by simp [intOf]; omega⟩
          rw [← HTT.out]
          exact ⟨ro, rc, so, sc, R2.out, R1.out, R4.out, R5.out, R3.out⟩
      · obtain rfl : k = an := by omega
        have HTE : Hid (es.take k = es) := Lib.hid (List.take_of_length_le (by rw [HAL.out]; exact Nat.le_refl _))
        have hTE := HTE.out
        rw [hTE] at ho ht hu
        clear hTE
        generalize Ed.join es = T at *
        obtain ⟨y0, y1, y2, y3, y4, yf, ylt⟩ := ho.of
        obtain ⟨z0, z1, z2, z3, z4, zf, zlt⟩ := hr.of
        have HT := Lib.hid ht; have HU := Lib.hid hu; have HBE := Lib.hid hbel; have HR := Lib.hid hr
        clear ho ht hu hbel hr
        go_wp2_with fail
        refine Ez.fill (P := bodyPost _ _ _ _ _) HR.out (.slice uo T.add.length uc) (.slice vo T.drop.length vc) T.log T.seq T.next ?_
        intro wF hF hTF
        clear y0 y1 y2 y3 y4 yf ylt z0 z1 z2 z3 z4 zf zlt
        obtain ⟨r0, r1, r2, r3, r4, rf, rlt⟩ := hF.of
        refine bodyPost_ret (v := edV uo T.add.length uc vo T.drop.length vc T.log T.seq T.next) (by simp [results, Try.results16, go_sem, edV, r0, r1, r2, r3, r4]) rfl ⟨uo, uc, vo, vc, rfl, ?_, ?_, ?_⟩
        · exact HT.out.elim (fun h => h.below (HBE.out.trans (hTF.to_below HBE.out.size (fun k hk => by rw [show k = w.heap.size from hk]; exact Nat.le_refl _)))) (fun h => (OwnsTb.turns h hTF (by omega)).sees)
        · exact HU.out.elim (fun h => h.below (HBE.out.trans (hTF.to_below HBE.out.size (fun k hk => by rw [show k = w.heap.size from hk]; exact Nat.le_refl _)))) (fun h => (OwnsN.turns h hTF (by omega)).sees)
        · exact HBE.out.trans (hTF.to_below HBE.out.size (fun k hk => by rw [show k = w.heap.size from hk]; exact Nat.le_refl _))

end Go.Proofs.Ytbdoekogoiijeaa
