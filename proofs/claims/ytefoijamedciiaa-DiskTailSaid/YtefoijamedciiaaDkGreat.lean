/- The walks of the statements' Great and GreatCrash. -/
import Derived.Test.YtefoijamedciiaaDkArgs
import Derived.Deep.QuietTactic
namespace Go.Proofs.Ytefoijamedciiaa
open Go.RowKit Go.Maps
open Dk (Dir Chg Disk File Str)

theorem Still.under {w w' : World} {base : Nat} {v : World} (h : Still w w') (hb : Below base v w) : Below base v w' := ⟨h.os.trans hb.os, h.tape.trans hb.tape, h.output.trans hb.output, by rw [h.heap]; exact hb.size, fun b hlt => by rw [h.heap]; exact hb.block b hlt⟩
def greatC (c : Dk.Crash) : Bool := decide (100 < c.keep.length) || decide (100 < c.spoil.length)
def greatA (x : Act) : Bool := decide (20000 < x.a.size) || decide (20000 < x.b.size) || greatC x.crash
def weight (l : List Act) : Nat := (l.map fun x => x.a.size + x.b.size).sum
def greatL (l : List Act) : Bool := decide (120 < l.length) || l.any greatA || decide (20000 < weight l)

set_option maxHeartbeats 8000000 in
set_option maxRecDepth 100000 in
theorem greatCrash_any (w : World) (vk vs : Value) (c : Dk.Crash) (h : Chosen w vk vs c) :
    Calls Try.prog 7 #[crashV c.names vk vs] w (Gives (.bool (greatC c)) w) := by
  obtain ⟨ka, kc, rfl⟩ := h.keep.shape
  obtain ⟨sa, sc, rfl⟩ := h.spoil.shape
  have HB := Lib.hid ((Below.refl w.heap.size w).alloc (Nat.le_refl _) (.cells #[.int .i64 c.names, .slice ka c.keep.length kc, .slice sa c.spoil.length sc] 26))
  have HG : Hid (greatC c = (decide ((100 : Int) < c.keep.length) || decide ((100 : Int) < c.spoil.length))) := by
    unfold greatC
    have e1 : decide ((100 : Int) < c.keep.length) = decide (100 < c.keep.length) := by apply decide_eq_decide.2; omega
    have e2 : decide ((100 : Int) < c.spoil.length) = decide (100 < c.spoil.length) := by apply decide_eq_decide.2; omega
    rw [e1, e2]; exact Lib.hid rfl
  obtain ⟨g, hg⟩ : ∃ g, g = greatC c := ⟨_, rfl⟩
  rw [← hg] at HG ⊢
  clear h hg
  unfold crashV
  generalize c.keep.length = lk at *
  generalize c.spoil.length = ls at *
  by_cases h1 : (100 : Int) < lk
  · go_enter Try.func7, Try.ntmps7
    go_wp2_with fail
    go_ret
    refine ⟨?_, HB.out⟩
    rw [HG.out, decide_eq_true h1]; rfl
  · by_cases h2 : (100 : Int) < ls
    · go_enter Try.func7, Try.ntmps7
      go_wp2_with fail
      go_ret
      refine ⟨?_, HB.out⟩
      rw [HG.out, decide_eq_false (show ¬ (100 : Int) < lk by omega), decide_eq_true h2]; rfl
    · go_enter Try.func7, Try.ntmps7
      go_wp2_with fail
      go_ret
      refine ⟨?_, HB.out⟩
      rw [HG.out, decide_eq_false (show ¬ (100 : Int) < lk by omega), decide_eq_false (show ¬ (100 : Int) < ls by omega)]; rfl

theorem weight_snoc (l : List Act) (x : Act) : weight (l ++ [x]) = weight l + (x.a.size + x.b.size) := by simp [weight]
theorem weight_take {l : List Act} {k : Nat} {x : Act} (h : l[k]? = some x) : weight (l.take (k + 1)) = weight (l.take k) + (x.a.size + x.b.size) := by rw [take_act h, weight_snoc]
theorem any_take {l : List Act} {k : Nat} {x : Act} (h : l[k]? = some x) (h0 : (l.take k).any greatA = false) (hx : greatA x = false) : (l.take (k + 1)).any greatA = false := by rw [take_act h, List.any_append, h0]; simp [hx]
theorem great_at {l : List Act} {k : Nat} {x : Act} (h : l[k]? = some x) (hx : greatA x = true) : greatL l = true := by
  have : l.any greatA = true := List.any_eq_true.2 ⟨x, List.mem_of_getElem? h, hx⟩
  unfold greatL; rw [this]; simp
/-- What is not great is small. -/
theorem small_of {l : List Act} (h : greatL l = false) : l.length ≤ 120 ∧ bytesOf l ≤ 20000 ∧ ∀ x ∈ l, small x = true := by
  unfold greatL at h
  simp only [Bool.or_eq_false_iff, decide_eq_false_iff_not] at h
  obtain ⟨⟨h1, h2⟩, h3⟩ := h
  refine ⟨by omega, ?_, fun x hx => ?_⟩
  · have : ∀ m : List Act, bytesOf m ≤ weight m := fun m => by
      induction m with
      | nil => exact Nat.le_refl _
      | cons y r ih => simp only [bytesOf, weight, List.map_cons, List.sum_cons] at ih ⊢; omega
    have := this l
    omega
  · have := List.any_eq_false.1 h2 x hx
    simp only [greatA, greatC, Bool.not_eq_true, Bool.or_eq_false_iff, decide_eq_false_iff_not] at this
    simp only [small, Bool.and_eq_true, decide_eq_true_eq]
    omega

set_option maxHeartbeats 8000000 in
set_option maxRecDepth 100000 in
theorem great_any (w : World) (v : Value) (l : List Act) (h : ActsRaw w v l) :
    Calls Try.prog 6 #[v] w (Gives (.bool (greatL l)) w) := by
  obtain ⟨va, vc, hv⟩ := h.shape
  have HA := Lib.hid h
  rw [hv] at HA ⊢
  clear h hv
  obtain ⟨g, hg⟩ : ∃ g, g = greatL l := ⟨_, rfl⟩
  rw [← hg]
  have HG := Lib.hid hg
  clear hg
  by_cases h1 : (120 : Int) < l.length
  · have HT : Hid (g = true) := by rw [HG.out]; unfold greatL; rw [decide_eq_true (show 120 < l.length by omega)]; exact Lib.hid rfl
    generalize l.length = n at *
    go_enter Try.func6, Try.ntmps6
    go_wp2_with fail
    go_ret
    refine ⟨?_, Below.refl _ _⟩
    rw [HT.out]; rfl
  have h2 : (l.length : Int) ≤ 120 := by omega
  clear h1
  go_enter Try.func6, Try.ntmps6
  go_wp2_with fail
  go_loopw [4, 3] (fun z u wr => ∃ (k n : Nat), k ≤ l.length ∧ z = .int .i64 (k : Int) ∧ u = .int .i64 (n : Int) ∧ n ≤ k * 40000 ∧ Hid (n = weight (l.take k) ∧ (l.take k).any greatA = false ∧ Below w.heap.size w wr)) (fun z _ _ => l.length - (intOf z).toNat)
  case atStart => exact ⟨0, 0, by omega, rfl, rfl, by omega, Lib.hid ⟨rfl, rfl, Below.refl _ _⟩⟩
  case round =>
    obtain ⟨k, n, hk, rfl, rfl, hn, HK⟩ := hrel
    by_cases hlt : k < l.length
    · have hlt2 : (k : Int) < l.length := by omega
      obtain ⟨x, hx⟩ : ∃ x, l[k]? = some x := ⟨_, List.getElem?_eq_getElem hlt⟩
      have hAw := HA.out.below HK.out.2.2
      rcases hAw with ⟨h1, _⟩ | ⟨b, off, cap, h1, hb2, hc⟩
      · rw [h1] at hx; simp at hx
      simp only [Value.slice.injEq, true_and] at h1
      obtain ⟨rfl, rfl⟩ := h1
      obtain ⟨hfx, vk, vs, hol, a0, a1, a2, a3, a4, a5, a6⟩ := hc k x hx
      have hgc := greatCrash_any wr vk vs x.crash hol
      unfold crashV at hgc
      have HGC := Lib.hid hgc; have HX := Lib.hid hx
      clear hgc hc hb2 hol hx hfx
      by_cases p1 : (20000 : Int) < x.a.size
      · have HT : Hid (g = true) := by rw [HG.out]; refine Lib.hid (great_at HX.out ?_); unfold greatA; rw [decide_eq_true (show 20000 < x.a.size by omega)]; rfl
        clear hlt
        go_wp2_with fail
        go_ret
        refine ⟨?_, HK.out.2.2⟩
        rw [HT.out]; rfl
      have q1 : (x.a.size : Int) ≤ 20000 := by omega
      by_cases p2 : (20000 : Int) < x.b.size
      · have HT : Hid (g = true) := by rw [HG.out]; refine Lib.hid (great_at HX.out ?_); unfold greatA; rw [decide_eq_true (show 20000 < x.b.size by omega)]; simp
        clear hlt p1
        go_wp2_with fail
        go_ret
        refine ⟨?_, HK.out.2.2⟩
        rw [HT.out]; rfl
      have q2 : (x.b.size : Int) ≤ 20000 := by omega
      clear p1 p2
      obtain ⟨gc, hgc⟩ : ∃ gc, gc = greatC x.crash := ⟨_, rfl⟩
      rw [← hgc] at HGC
      cases gc with
      | true =>
        have HT : Hid (g = true) := by rw [HG.out]; refine Lib.hid (great_at HX.out ?_); unfold greatA; rw [← hgc]; simp
        clear hlt hgc
        go_wp2_with fail
        refine HGC.out.mono ?_
        rintro e w2 ⟨rfl, hb2⟩
        have HB2 := Lib.hid (Below.next HK.out.2.2 hb2)
        clear hb2
        go_wp2_with fail
        go_ret
        refine ⟨?_, HB2.out⟩
        rw [HT.out]; rfl
      | false =>
        have HGA : Hid (greatA x = false) := by unfold greatA; rw [← hgc, decide_eq_false (show ¬ 20000 < x.a.size by omega), decide_eq_false (show ¬ 20000 < x.b.size by omega)]; exact Lib.hid rfl
        clear hgc
        go_wp2_with fail
        refine HGC.out.mono ?_
        rintro e w2 ⟨rfl, hb2⟩
        have hkb := hb2
        have e1 : w2.cell? ⟨b, off + k * 7 + 1, none⟩ = some (.string x.a) := cell_kept a1 (hb2.block b (World.block_lt_of_cell? _ _ a1))
        have e2 : w2.cell? ⟨b, off + k * 7 + 2, none⟩ = some (.string x.b) := cell_kept a2 (hb2.block b (World.block_lt_of_cell? _ _ a2))
        have HB2 := Lib.hid (Below.next HK.out.2.2 hb2)
        clear hb2 hkb a0 a1 a2 a3 a4 a5 a6
        go_wp2_with fail
        go_quiet (fail)
        go_wp2_with fail
        go_roundw
        case rel => exact ⟨k + 1, n + (x.a.size + x.b.size), by omega, by go_num, by go_num, by omega, Lib.hid ⟨by rw [weight_take HX.out, ← HK.out.1], any_take HX.out HK.out.2.1 HGA.out, (still_drewN _ _).under HB2.out⟩⟩
        case measure => simp [intOf]; omega
    · obtain rfl : k = l.length := by omega
      have HT : Hid (g = decide ((20000 : Int) < n)) := by
        rw [HG.out]
        have e1 : decide ((20000 : Int) < n) = decide (20000 < n) := by apply decide_eq_decide.2; omega
        have hw := HK.out.1; have ha := HK.out.2.1
        rw [List.take_length] at hw ha
        rw [e1, hw]
        unfold greatL
        rw [ha, decide_eq_false (show ¬ 120 < l.length by omega)]
        exact Lib.hid rfl
      clear hlt
      go_wp2_with fail
      go_ret
      refine ⟨?_, HK.out.2.2⟩
      rw [HT.out]; rfl

end Go.Proofs.Ytefoijamedciiaa
