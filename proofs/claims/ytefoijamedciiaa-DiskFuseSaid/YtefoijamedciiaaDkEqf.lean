/- The walks of maps.EqualFunc over two directories, and of Same. -/
import Derived.Test.YtefoijamedciiaaDkEq
import Derived.Maps.RangeWalk
namespace Go.Proofs.Ytefoijamedciiaa
open Go.RowKit Go.Maps
open Dk (Dir Chg Disk File Str)

/-- An entry of a directory that has come in a round. -/
theorem entry_of {loc : Nat → Nat} {d : Dir} {kl : Lit} {c : Option Addr} {x : Str} {yd : DataW Unit} {yp : List MemPlace} (hkl : kl = .string x) (hat : ∀ zd, (toD loc d).atKey kl zd = yd) (hv : ptrElem (.pointer c) = some (yd, yp)) :
    ∃ i, Dk.look x d = some i ∧ c = some ⟨loc i, 0, none⟩ := by
  subst hkl
  cases hl : Dk.look x d with
  | none =>
    have h1 := hat .nil
    have h2 := hat (.map [])
    rw [toD_at, hl] at h1 h2
    dsimp only at h1 h2
    rw [← h1] at h2
    cases h2
  | some i =>
    have h1 := hat .nil
    rw [toD_at, hl] at h1
    dsimp only at h1
    subst h1
    obtain ⟨m, hm, hm2⟩ := ptrElem_inv hv
    simp only [Value.pointer.injEq] at hm
    have hm3 : m = loc i := by omega
    subst hm3
    exact ⟨i, rfl, hm⟩
theorem grown_below {w w' : World} (h : w.grownBy w' none) : Below w.heap.size w w' := ⟨h.os, h.tape, h.output, h.size, fun k hk => h.block k hk (by simp)⟩

set_option maxHeartbeats 8000000 in
set_option maxRecDepth 100000 in
theorem equalFiles_any (w : World) (b1 b2 : Nat) (m1 m2 : Nat → Nat) (d : Dir) (h1 : w.ownsMap Try.prog 9 ptrElem b1 d.length (toD m1 d)) (h2 : w.ownsMap Try.prog 9 ptrElem b2 d.length (toD m2 d)) (hf : ∀ p ∈ d, FileTwo w (fileV m1 (some p.2)) (fileV m2 (some p.2))) :
    Calls Try.prog 39 #[.map (some b1), .map (some b2), .func (.func 40) #[] #[]] w fun e w' => e = .returned (.bool true) ∧ Below w.heap.size w w' := by
  have l1 := fun ty => h1.len Try.underlying54 ty
  have l2 := fun ty => h2.len Try.underlying54 ty
  simp only [toD_size] at l1 l2
  have HF := Lib.hid hf
  have H2 := Lib.hid h2
  have hb2 := h2.lt
  clear hf h2
  obtain ⟨r, hr⟩ : ∃ r, r = w.heap.size := ⟨_, rfl⟩
  go_enter Try.func39, Try.ntmps39
  go_wp2_with (first
    | (at_range; refine wpList_range_own _ rfl _ 54 rfl 9 58 law Try.underlying54 ptrElem b1 d.length _ rfl h1 ?_; intro w0 hrg0 hg0 hs0)
    | go_in)
  go_frame
  rw [← hr] at hrg0 ⊢
  have HG0 := Lib.hid hg0; have HRG0 := Lib.hid hrg0; have HR := Lib.hid hr
  clear hg0 hrg0 hs0 l1 l2 h1 hr
  go_loopw [18] (fun _ wr => ∃ (left : Lit → Bool) (cnt : Nat), wr.ranges Try.prog 9 ptrElem b1 r d.length (toD m1 d) left cnt ∧ Hid (wr.ownsMap Try.prog 9 ptrElem b2 d.length (toD m2 d) ∧ w.grownBy wr none)) (fun _ wr => wr.rangeLeft b1 r)
  case atStart => exact ⟨_, _, HRG0.out, Lib.hid ⟨H2.out.kept HG0.out (by simp), HG0.out⟩⟩
  case round =>
    obtain ⟨left, cnt, hrg, HK⟩ := hrel
    go_wp2_with (first
      | (at_next; refine wpList_next_ranges _ rfl _ rfl 9 law ptrElem encStr Value.pointer (fun key kl hk => by obtain ⟨x, hx, _⟩ := Maps.keyOf_str Try.underlying9 hk; exact ⟨x, hx⟩) ptr_inv b1 r d.length _ _ _ rfl hrg ?_ ?_)
      | go_in)
    · intro _ _
      go_wp2_with fail
      go_ret
      exact ⟨rfl, grown_below HK.out.2⟩
    · intro x c kl yd yp w1 cnt1 hkey hlk hv hat hrg1 hlt hg1 hs1 hen
      obtain ⟨x', ex, hkl, hxl⟩ := Maps.keyOf_str Try.underlying9 hkey
      obtain rfl : x = x' := encStr_inj ex
      obtain ⟨i, hi, rfl⟩ := entry_of hkl hat hv
      have hgw1 : w.grownBy w1 none := HK.out.2.andThen hg1 (fun j hj => by cases hj; exact Or.inl (Nat.le_of_eq HR.out.symm))
      have h2w1 := HK.out.1.kept hg1 (fun e => by have := Option.some.inj e; have := HR.out; omega)
      obtain ⟨v, ps, hrun, hR⟩ := h2w1.look_ok law Try.underlying54 (zero_ptr w1) (zd := .nil) (zp := []) rfl hkey
      rw [hkl, toD_has, hi] at hrun
      rw [hkl, toD_at, hi] at hR
      dsimp only at hR
      obtain ⟨m, rfl, hm⟩ := ptrElem_inv hR
      obtain rfl : m = m2 i := by omega
      have hft := (HF.out (x, i) (Dk.mem_of_look hi)).under (grown_below hgw1)
      have HAL := Lib.hid (alike_any w1 _ _ hft)
      unfold fileV at HAL
      have HX := Lib.hid (And.intro hrg1 (And.intro h2w1 (And.intro hgw1 (And.intro hlt hrg))))
      clear hkey hlk hv hat hlt hg1 hs1 hR hm hi hft hrg1 h2w1 hgw1 hkl hxl ex hrg
      unfold encStr at hen hrun ⊢
      simp only [Option.isSome_some] at hrun
      go_wp2_with fail
      refine HAL.out.mono ?_
      rintro e w2 ⟨rfl, hst⟩
      have hg2 : w1.grownBy w2 none := ⟨hst.os, hst.tape, hst.output, by rw [hst.heap]; exact Nat.le_refl _, fun k _ _ => by rw [hst.heap]⟩
      have HY := Lib.hid (And.intro (HX.out.1.kept hg2 (by simp) (by simp)) (And.intro (HX.out.2.1.kept hg2 (by simp)) (HX.out.2.2.1.andThen hg2 (fun j hj => by cases hj))))
      clear hst hg2 hen hrun HAL
      go_wp2_with fail
      go_roundw
      case rel => exact ⟨_, cnt1, HY.out.1, Lib.hid ⟨HY.out.2.1, HY.out.2.2⟩⟩
      case measure => rw [HY.out.1.left_eq, HX.out.2.2.2.2.left_eq]; exact HX.out.2.2.2.1

theorem fileTwo_of {w : World} {L M : Lay} {S : Disk} (h : Holds w L S) (k : Holds w M S) {i : Nat} (hi : L.live i) (ki : M.live i) : FileTwo w (fileV L.loc (some i)) (fileV M.loc (some i)) := by
  by_cases e : L.loc i = M.loc i
  · refine Or.inl ⟨?_, Or.inr ⟨_, rfl⟩⟩
    show Value.pointer (some ⟨L.loc i, 0, none⟩) = Value.pointer (some ⟨M.loc i, 0, none⟩)
    rw [e]
  · exact Or.inr ⟨_, _, _, _, _, e, rfl, rfl, h.file i hi, k.file i ki⟩
/-- Two disks that hold the same. -/
theorem chgsTwo_of {w : World} {L M : Lay} {S : Disk} (h : Holds w L S) (k : Holds w M S) : ChgsTwo w S.changes.length L.vec M.vec := by
  obtain ⟨xa, ka, ha⟩ := row_shape h.chg
  obtain ⟨xb, kb, hb⟩ := row_shape k.chg
  by_cases h0 : S.changes.length = 0
  · rw [h0] at ha hb
    exact Or.inl ⟨h0, ⟨_, _, ha⟩, _, _, hb⟩
  · obtain ⟨ga, ca, h1, hga, hgl⟩ := h.chg.form (by omega)
    obtain ⟨gb, cb, h2, hgb, hgl2⟩ := k.chg.form (by omega)
    refine Or.inr ⟨ga, ca, gb, cb, h1, h2, hgl, hgl2, fun i hi => ?_⟩
    obtain ⟨c, hc⟩ : ∃ c, S.changes[i]? = some c := ⟨_, List.getElem?_eq_getElem hi⟩
    obtain ⟨a0, a1, a2⟩ := h.chgAt h1 hc
    obtain ⟨b0, b1, b2⟩ := k.chgAt h2 hc
    refine ⟨⟨c.src.toArray⟩, ⟨c.dst.toArray⟩, fileV L.loc c.made, fileV M.loc c.made, ?_, a0, a1, a2, b0, b1, b2⟩
    cases hm : c.made with
    | none => exact Or.inl ⟨rfl, Or.inl rfl⟩
    | some j => exact fileTwo_of h k (h.inChg c (List.mem_of_getElem? hc) j hm) (k.inChg c (List.mem_of_getElem? hc) j hm)

theorem same_keep {w w' : World} {a b : Nat} {x0 x2 x3 x5 x6 y0 y2 y3 y5 y6 : Value} (h : w.cell? ⟨a, 0, none⟩ = some x0 ∧ w.cell? ⟨a, 2, none⟩ = some x2 ∧ w.cell? ⟨a, 3, none⟩ = some x3 ∧ w.cell? ⟨a, 5, none⟩ = some x5 ∧ w.cell? ⟨a, 6, none⟩ = some x6 ∧
      w.cell? ⟨b, 0, none⟩ = some y0 ∧ w.cell? ⟨b, 2, none⟩ = some y2 ∧ w.cell? ⟨b, 3, none⟩ = some y3 ∧ w.cell? ⟨b, 5, none⟩ = some y5 ∧ w.cell? ⟨b, 6, none⟩ = some y6 ∧ a < w.heap.size ∧ b < w.heap.size) (hb : Below w.heap.size w w') :
    w'.cell? ⟨a, 0, none⟩ = some x0 ∧ w'.cell? ⟨a, 2, none⟩ = some x2 ∧ w'.cell? ⟨a, 3, none⟩ = some x3 ∧ w'.cell? ⟨a, 5, none⟩ = some x5 ∧ w'.cell? ⟨a, 6, none⟩ = some x6 ∧
      w'.cell? ⟨b, 0, none⟩ = some y0 ∧ w'.cell? ⟨b, 2, none⟩ = some y2 ∧ w'.cell? ⟨b, 3, none⟩ = some y3 ∧ w'.cell? ⟨b, 5, none⟩ = some y5 ∧ w'.cell? ⟨b, 6, none⟩ = some y6 ∧ a < w'.heap.size ∧ b < w'.heap.size := by
  obtain ⟨h0, h1, h2, h3, h4, h5, h6, h7, h8, h9, ha, hc⟩ := h
  have ka := hb.block a ha
  have kb := hb.block b hc
  exact ⟨cell_kept h0 ka, cell_kept h1 ka, cell_kept h2 ka, cell_kept h3 ka, cell_kept h4 ka, cell_kept h5 kb, cell_kept h6 kb, cell_kept h7 kb, cell_kept h8 kb, cell_kept h9 kb, Nat.lt_of_lt_of_le ha hb.size, Nat.lt_of_lt_of_le hc hb.size⟩

set_option maxHeartbeats 8000000 in
set_option maxRecDepth 100000 in
theorem same_any (w : World) {L M : Lay} {S : Disk} (h : Holds w L S) (k : Holds w M S) (F : Fits S) :
    Calls Try.prog 20 #[.pointer (some ⟨L.d, 0, none⟩), .pointer (some ⟨M.d, 0, none⟩)] w fun e w' => e = .returned (.bool true) ∧ Below w.heap.size w w' := by
  have M1 := Lib.hid (made_any w h)
  have M2 := Lib.hid (made_any w k)
  obtain ⟨c0, c1, c2, c3, c4, c5, c6⟩ := h.cells
  obtain ⟨d0, d1, d2, d3, d4, d5, d6⟩ := k.cells
  have hl : L.d < w.heap.size := heap_lt h.box
  have hm : M.d < w.heap.size := heap_lt k.box
  have HE := Lib.hid (fun w' (hb : Below w.heap.size w w') => equalFiles_any w' L.bl M.bl L.loc M.loc S.lasting (h.below hb).old (k.below hb).old (fun p hp => (fileTwo_of h k (h.inOld p hp) (k.inOld p hp)).under hb))
  have HT := Lib.hid (chgsTwo_of h k)
  have HC := Lib.hid (fun w' (hb : Below w.heap.size w w') => equalChanges_any w' S.changes.length L.vec M.vec (HT.out.under hb) F.chg)
  clear HT h k
  go_enter Try.func20, Try.ntmps20
  go_wp2_with fail
  refine M1.out.mono ?_
  rintro e wz ⟨rfl, rfl⟩
  go_wp2_with fail
  refine M2.out.mono ?_
  rintro e wz ⟨rfl, rfl⟩
  go_wp2_with fail
  go_region_held3 (fun w' => w'.cell? ⟨L.d, 0, none⟩ = some (.int .i64 S.room) ∧ w'.cell? ⟨L.d, 2, none⟩ = some (.int .i64 (S.fuse : Int)) ∧ w'.cell? ⟨L.d, 3, none⟩ = some (.bool S.down) ∧ w'.cell? ⟨L.d, 5, none⟩ = some (.map (some L.bl)) ∧ w'.cell? ⟨L.d, 6, none⟩ = some L.vec ∧
      w'.cell? ⟨M.d, 0, none⟩ = some (.int .i64 S.room) ∧ w'.cell? ⟨M.d, 2, none⟩ = some (.int .i64 (S.fuse : Int)) ∧ w'.cell? ⟨M.d, 3, none⟩ = some (.bool S.down) ∧ w'.cell? ⟨M.d, 5, none⟩ = some (.map (some M.bl)) ∧ w'.cell? ⟨M.d, 6, none⟩ = some M.vec ∧ L.d < w'.heap.size ∧ M.d < w'.heap.size)
    (first | exact ⟨c0, c2, c3, c5, c6, d0, d2, d3, d5, d6, hl, hm⟩ | exact same_keep (by assumption) hb1 | exact same_keep (by assumption) hb2)
    (first
      | (go_at_call 39; refine Calls.mono (HE.out _ (by first | exact ⟨rfl, rfl, rfl, Nat.le_refl _, fun _ _ => rfl⟩)) ?_; rintro e w1 ⟨rfl, hb1⟩)
      | (go_at_call 41; refine Calls.mono (HC.out _ ⟨hb1.os, hb1.tape, hb1.output, hb1.size, hb1.block⟩) ?_; rintro e w2 ⟨rfl, hb2⟩))
  have HB := Lib.hid (Below.next (show Below wz.heap.size wz w1 from ⟨hb1.os, hb1.tape, hb1.output, hb1.size, hb1.block⟩) hb2)
  rename_i hHeld
  clear hHeld hb1 hb2 HE HC M1 M2 c0 c1 c2 c3 c4 c5 c6 d0 d1 d2 d3 d4 d5 d6 hl hm
  go_wp2_with fail
  go_ret
  exact ⟨rfl, HB.out⟩

end Go.Proofs.Ytefoijamedciiaa
