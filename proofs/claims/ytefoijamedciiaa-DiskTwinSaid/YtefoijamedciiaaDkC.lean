/- The walk of disk.change. -/
import Derived.Test.YtefoijamedciiaaDkB
import Derived.Test.YtefoijamedciiaaDkD
import Derived.Test.YtefoijamedciiaaClone
import Derived.Deep.RegionHeld3
import Derived.Deep.RegionLaw
import Derived.Deep.AppendLies
import Derived.BigQuiet
import Derived.Deep.Cut
import Derived.StillTailTactics
import Derived.Maps.AppendAt
namespace Go.Proofs.Ytefoijamedciiaa
open Go.RowKit Go.Maps
open Dk (Dir Chg Disk File Str)

theorem box_new (w : World) (cs : Array Value) (t : TypeId) (j : Nat) : (w.alloc (.cells cs t (0, 0))).cell? ⟨w.heap.size, j, none⟩ = cs[j]? := cell_of (heap_alloc_new w _) j

theorem box_keep {w1 w' w'' : World} {p : Nat} {x y z : Value} (h : w'.cell? ⟨p, 0, none⟩ = some x ∧ w'.cell? ⟨p, 1, none⟩ = some y ∧ w'.cell? ⟨p, 2, none⟩ = some z ∧ p < w'.heap.size ∧ w'.frozen? ⟨p, 0, none⟩ = false ∧ w'.frozen? ⟨p, 1, none⟩ = false ∧ Below p w1 w')
    (hb : Below w'.heap.size w' w'') : w''.cell? ⟨p, 0, none⟩ = some x ∧ w''.cell? ⟨p, 1, none⟩ = some y ∧ w''.cell? ⟨p, 2, none⟩ = some z ∧ p < w''.heap.size ∧ w''.frozen? ⟨p, 0, none⟩ = false ∧ w''.frozen? ⟨p, 1, none⟩ = false ∧ Below p w1 w'' := by
  obtain ⟨h0, h1, h2, h3, h4, h5, h6⟩ := h
  exact ⟨(hb.cell (p := ⟨p, 0, none⟩) h3).trans h0, (hb.cell (p := ⟨p, 1, none⟩) h3).trans h1, (hb.cell (p := ⟨p, 2, none⟩) h3).trans h2, Nat.lt_of_lt_of_le h3 hb.size, (hb.frozen (p := ⟨p, 0, none⟩) h3).trans h4, (hb.frozen (p := ⟨p, 1, none⟩) h3).trans h5, h6.trans (hb.mono (Nat.le_of_lt h3))⟩
theorem box_set0 {w1 w' : World} {p : Nat} {x y z : Value} (h : w'.cell? ⟨p, 0, none⟩ = some x ∧ w'.cell? ⟨p, 1, none⟩ = some y ∧ w'.cell? ⟨p, 2, none⟩ = some z ∧ p < w'.heap.size ∧ w'.frozen? ⟨p, 0, none⟩ = false ∧ w'.frozen? ⟨p, 1, none⟩ = false ∧ Below p w1 w') :
    (w'.setCell ⟨p, 0, none⟩ x).cell? ⟨p, 0, none⟩ = some x ∧ (w'.setCell ⟨p, 0, none⟩ x).cell? ⟨p, 1, none⟩ = some y ∧ (w'.setCell ⟨p, 0, none⟩ x).cell? ⟨p, 2, none⟩ = some z ∧ p < (w'.setCell ⟨p, 0, none⟩ x).heap.size ∧ (w'.setCell ⟨p, 0, none⟩ x).frozen? ⟨p, 0, none⟩ = false ∧ (w'.setCell ⟨p, 0, none⟩ x).frozen? ⟨p, 1, none⟩ = false ∧ Below p w1 (w'.setCell ⟨p, 0, none⟩ x) := by
  obtain ⟨h0, h1, h2, h3, h4, h5, h6⟩ := h
  exact ⟨World.cell?_setCell_same _ _ _ h0, (World.cell?_setCell_other _ _ _ _ (by simp)).trans h1, (World.cell?_setCell_other _ _ _ _ (by simp)).trans h2, by simpa [World.setCell] using h3, by rw [World.frozen?_setCell]; exact h4, by rw [World.frozen?_setCell]; exact h5, h6.trans ⟨rfl, rfl, rfl, by simp [World.setCell], fun k hk => RowKit.Below.heap_setCell _ _ _ _ (by simp; omega)⟩⟩
theorem box_set1 {w1 w' : World} {p : Nat} {x y z : Value} (h : w'.cell? ⟨p, 0, none⟩ = some x ∧ w'.cell? ⟨p, 1, none⟩ = some y ∧ w'.cell? ⟨p, 2, none⟩ = some z ∧ p < w'.heap.size ∧ w'.frozen? ⟨p, 0, none⟩ = false ∧ w'.frozen? ⟨p, 1, none⟩ = false ∧ Below p w1 w') :
    (w'.setCell ⟨p, 1, none⟩ y).cell? ⟨p, 0, none⟩ = some x ∧ (w'.setCell ⟨p, 1, none⟩ y).cell? ⟨p, 1, none⟩ = some y ∧ (w'.setCell ⟨p, 1, none⟩ y).cell? ⟨p, 2, none⟩ = some z ∧ p < (w'.setCell ⟨p, 1, none⟩ y).heap.size ∧ (w'.setCell ⟨p, 1, none⟩ y).frozen? ⟨p, 0, none⟩ = false ∧ (w'.setCell ⟨p, 1, none⟩ y).frozen? ⟨p, 1, none⟩ = false ∧ Below p w1 (w'.setCell ⟨p, 1, none⟩ y) := by
  obtain ⟨h0, h1, h2, h3, h4, h5, h6⟩ := h
  exact ⟨(World.cell?_setCell_other _ _ _ _ (by simp)).trans h0, World.cell?_setCell_same _ _ _ h1, (World.cell?_setCell_other _ _ _ _ (by simp)).trans h2, by simpa [World.setCell] using h3, by rw [World.frozen?_setCell]; exact h4, by rw [World.frozen?_setCell]; exact h5, h6.trans ⟨rfl, rfl, rfl, by simp [World.setCell], fun k hk => RowKit.Below.heap_setCell _ _ _ _ (by simp; omega)⟩⟩

theorem four_keep {w' w'' : World} {p d bn : Nat} {x y z v : Value} (h : w'.cell? ⟨p, 0, none⟩ = some x ∧ w'.cell? ⟨p, 1, none⟩ = some y ∧ w'.cell? ⟨p, 2, none⟩ = some z ∧ w'.cell? ⟨d, 4, none⟩ = some v ∧ p < w'.heap.size ∧ d < w'.heap.size)
    (hp : p ≠ bn) (hd : d ≠ bn) (ht : Turns (fun k => k = bn) w' w'') : w''.cell? ⟨p, 0, none⟩ = some x ∧ w''.cell? ⟨p, 1, none⟩ = some y ∧ w''.cell? ⟨p, 2, none⟩ = some z ∧ w''.cell? ⟨d, 4, none⟩ = some v ∧ p < w''.heap.size ∧ d < w''.heap.size := by
  obtain ⟨h0, h1, h2, h3, h4, h5⟩ := h
  exact ⟨cell_kept h0 (ht.block p h4 hp), cell_kept h1 (ht.block p h4 hp), cell_kept h2 (ht.block p h4 hp), cell_kept h3 (ht.block d h5 hd), Nat.lt_of_lt_of_le h4 ht.size, Nat.lt_of_lt_of_le h5 ht.size⟩

theorem info_chg : (Try.prog.info? 62).map (fun i => (i.zero, i.size, i.bytes)) = some (some (.agg #[.string ⟨#[]⟩, .string ⟨#[]⟩, .pointer none]), 3, 40) := by kernel_rfl

set_option maxHeartbeats 4000000 in
set_option maxRecDepth 100000 in
theorem change_any {L : Lay} {S : Disk} (w : World) (h : Holds w L S) (F : Fits S) (sf st : ByteArray) (mk lost : Option Nat) (hcan : (⟨sf.data.toList, st.data.toList, mk⟩ : Chg).Can S.now)
    (hmk : ∀ i, mk = some i → L.live i) (hlost : ∀ i, lost = some i → L.live i) (hs1 : sf.size ≤ 281474976710656) (hs2 : st.size ≤ 281474976710656) :
    Calls Try.prog 44 #[.pointer (some ⟨L.d, 0, none⟩), .agg #[.string sf, .string st, fileV L.loc mk], fileV L.loc lost] w fun e w' =>
      e = .returned (.int .i64 (S.change ⟨sf.data.toList, st.data.toList, mk⟩ lost).1) ∧ Goes L w (S.change ⟨sf.data.toList, st.data.toList, mk⟩ lost).2 w' := by
  have HF := Lib.hid F; clear F
  have hbx := h.alloc (.cells #[.string sf, .string st, fileV L.loc mk] 62)
  have HB := Lib.hid (burns_any _ hbx HF.out.fuse)
  have hdl : L.d < w.heap.size := h.own_lt (Or.inl rfl)
  have HH := Lib.hid h; clear h hbx
  have HM := Lib.hid hmk; have HL := Lib.hid hlost; have HC := Lib.hid hcan; clear hmk hlost hcan
  have H1 := Lib.hid hs1; have H2 := Lib.hid hs2; clear hs1 hs2
  generalize hgv : fileV L.loc mk = gv at HB ⊢
  generalize hlv : fileV L.loc lost = lv
  have HGV := Lib.hid hgv; have HLV := Lib.hid hlv; clear hgv hlv
  obtain ⟨R, hR⟩ : ∃ R, R = S.change ⟨sf.data.toList, st.data.toList, mk⟩ lost := ⟨_, rfl⟩
  rw [← hR]
  unfold Disk.change at hR
  have HR := Lib.hid hR; clear hR
  go_enter Try.func44, Try.ntmps44
  go_wp2_with fail
  refine HB.out.mono ?_
  rintro e w1 ⟨rfl, hh1, ht1, hz1⟩
  rw [World.size_alloc] at hz1
  have hk1 := ht1.block w.heap.size (by simp) (by omega)
  have HW1 : Hid (w1.heap[w.heap.size]? = some (.cells #[.string sf, .string st, gv] 62 (0, 0))) := Lib.hid (hk1.trans (heap_alloc_new w _))
  have HT1 : Hid (Turns (Own L) w w1) := Lib.hid ((Turns.of_below (P := Own L) ((Below.refl _ w).alloc (Nat.le_refl _) _)).trans (ht1.mono (Q := Own L) (fun x hx => Or.inl (Or.inl hx))) (fun _ hx => Or.inl hx))
  have HH1 := Lib.hid hh1
  clear hh1 ht1 hk1 HB
  cases hb : S.burnt with
  | true =>
    have HE : Hid (R = (7, S.burn)) := by have := HR.out; rw [hb] at this; exact Lib.hid this
    go_wp2_with fail
    go_ret
    rw [HE.out]
    exact ⟨rfl, L, rfl, HH1.out, HT1.out, fun b hb => Or.inl hb⟩
  | false =>
    have HE : Hid (R = (0, S.burn.did ⟨sf.data.toList, st.data.toList, mk⟩ lost)) := by have := HR.out; rw [hb] at this; exact Lib.hid this
    clear HR hb
    obtain ⟨c0, c1, c2, c3, c4, c5, c6⟩ := HH1.out.cells
    have a0 : w1.cell? ⟨w.heap.size, 0, none⟩ = some (.string sf) := by rw [cell_of HW1.out]; rfl
    have a1 : w1.cell? ⟨w.heap.size, 1, none⟩ = some (.string st) := by rw [cell_of HW1.out]; rfl
    have a2 : w1.cell? ⟨w.heap.size, 2, none⟩ = some gv := by rw [cell_of HW1.out]; rfl
    have f0 := unfrozen_of HW1.out 0
    have f1 := unfrozen_of HW1.out 1
    go_wp2_with fail
    have hp1 : w.heap.size < w1.heap.size := by omega
    generalize hpp : w.heap.size = p at *
    have HPP := Lib.hid hpp; clear hpp
    go_region_held3 (fun w' => w'.cell? ⟨p, 0, none⟩ = some (.string sf) ∧ w'.cell? ⟨p, 1, none⟩ = some (.string st) ∧ w'.cell? ⟨p, 2, none⟩ = some gv ∧ p < w'.heap.size ∧ w'.frozen? ⟨p, 0, none⟩ = false ∧ w'.frozen? ⟨p, 1, none⟩ = false ∧ Below p w1 w')
      (first | exact ⟨a0, a1, a2, hp1, f0, f1, rfl, rfl, rfl, Nat.le_refl _, fun _ _ => rfl⟩ | exact box_keep (by assumption) hb4 | exact box_set0 (by assumption) | exact box_set1 (by assumption))
      (first | (go_at_call 35; refine (clone_any sf _ H1.out).mono ?_; rintro e w4 ⟨rfl, hb4⟩) | (go_at_call 35; refine (clone_any st _ H2.out).mono ?_; rintro e w4 ⟨rfl, hb4⟩))
    have hS := ‹_ ∧ _ ∧ _ ∧ _ ∧ _ ∧ _ ∧ Below p w1 ((w4.setCell ⟨p, 0, none⟩ (.string sf)).setCell ⟨p, 1, none⟩ (.string st))›
    generalize (w4.setCell ⟨p, 0, none⟩ (.string sf)).setCell ⟨p, 1, none⟩ (.string st) = w5 at *
    clear a0 a1 a2 f0 f1 c0 c1 c2 c3 c4 c5 c6 hb4
    obtain ⟨a0, a1, a2, hp5, _, _, hbel5⟩ := hS
    have hown_p : ∀ b, Own L b → b < p := fun b hb => by have := HH.out.own_lt hb; have := HPP.out; omega
    have HO := Lib.hid hown_p
    have HH5 : Hid (Holds w5 L S.burn) := Lib.hid (HH1.out.frame fun b hb => hbel5.block b (hown_p b hb))
    have HT5 : Hid (Turns (Own L) w w5) := Lib.hid (HT1.out.trans (P := Own L) (Q := fun k => p ≤ k) ⟨hbel5.os, hbel5.tape, hbel5.output, hbel5.size, fun k _ hk => hbel5.block k (by omega)⟩ (fun x hx => Or.inr (by rw [HPP.out]; exact hx)))
    clear hbel5 hown_p HT1 HH1 HW1
    rename_i hx1 hx2
    clear hx1 hx2
    have hpn : p ≠ L.bn := fun e => by have := HO.out L.bn (Or.inr (Or.inl rfl)); omega
    have hdn : L.d ≠ L.bn := fun e => HH.out.lone.bn_d e.symm
    have c4 := HH5.out.cells.2.2.2.2.1
    have hd5 : L.d < w5.heap.size := by omega
    have HN : Hid (w5.ownsMap Try.prog 9 ptrElem L.bn S.now.length (toD L.loc S.now)) := by
      have := HH5.out.now
      rw [(burn_now S).1] at this
      exact Lib.hid this
    have hnl : S.now.length < maxLen := by have := HF.out.now; unfold maxLen; omega
    have hl1 : sf.size ≤ maxLen := by have := H1.out; unfold maxLen; omega
    have hl2 : st.size ≤ maxLen := by have := H2.out; unfold maxLen; omega
    have HD := fun w' h' => Lib.hid (do_any L.loc sf st mk S.now L.bn w' h' HC.out hl1 hl2 hnl)
    rw [HGV.out] at HD
    clear hnl hl1 hl2
    go_wp2_with fail
    go_region_held3 (fun w' => w'.cell? ⟨p, 0, none⟩ = some (.string sf) ∧ w'.cell? ⟨p, 1, none⟩ = some (.string st) ∧ w'.cell? ⟨p, 2, none⟩ = some gv ∧ w'.cell? ⟨L.d, 4, none⟩ = some (.map (some L.bn)) ∧ p < w'.heap.size ∧ L.d < w'.heap.size)
      (first | exact ⟨a0, a1, a2, c4, hp5, hd5⟩ | exact four_keep (by assumption) hpn hdn ht6)
      (first | (go_at_call 32; refine (HD _ HN.out.drew).out.mono ?_; rintro e w6 ⟨rfl, ⟨n6, ho6⟩, ht6⟩))
    have hS := ‹w6.cell? ⟨p, 0, none⟩ = some (.string sf) ∧ _›
    rename_i hx3
    clear hx3 a0 a1 a2 c4 hp5 hd5 HD
    obtain ⟨a0, a1, a2, _, hp6, hd6⟩ := hS
    have HH6 : Hid (Holds w6 L { S.burn with now := (⟨sf.data.toList, st.data.toList, mk⟩ : Chg).run S.now }) := Lib.hid (HH5.out.drew.setNow ⟨ht6.os, ht6.tape, ht6.output, ht6.size, fun k hk hne => ht6.block k hk (fun e => hne (by rw [e]))⟩ _ ho6 (fun q hq => by
      rcases Dk.id_run hq with ⟨z, hz, he⟩ | he
      · rw [← he]; exact HH.out.inNow z hz
      · exact HM.out _ he))
    have HT6 : Hid (Turns (Own L) w w6) := Lib.hid (HT5.out.drew.trans ht6 (fun x hx => Or.inl (by rw [hx]; exact Or.inr (Or.inl rfl))))
    clear ht6 ho6 HN HH5 HT5
    obtain ⟨i0, hi, hz0, hz1, hz2⟩ := info_parts info_chg
    have hraw : w6.ownsRow 0 62 3 L.vec S.changes.length (S.changes.flatMap (chgCells L.loc)) := by
      have := HH6.out.chg
      dsimp only at this
      rw [(burn_now S).2.2.1] at this
      exact this
    have c6 := HH6.out.cells.2.2.2.2.2.2
    have f6 := HH6.out.soft 6
    have hvd := fun e => (HH6.out.lone.vec_d L.d e).1 rfl
    have hone : ∀ u ∈ [Value.string sf, .string st, gv], u.oneCell' = true := by
      rw [← HGV.out]
      intro u hu
      simp only [List.mem_cons, List.not_mem_nil, or_false] at hu
      rcases hu with rfl | rfl | rfl
      · rfl
      · rfl
      · cases mk <;> rfl
    have HONE := Lib.hid hone; clear hone
    have hcl := HF.out.chg
    have HCL := Lib.hid hcl; clear hcl
    have kk : ∀ o, Hid ((w6.alloc o).cell? ⟨L.d, 6, none⟩ = some L.vec) := fun o => (((Below.refl _ w6).alloc (Nat.le_refl _) o).cell (p := ⟨L.d, 6, none⟩) hd6).trans c6
    have kf : ∀ o, Hid ((w6.alloc o).frozen? ⟨L.d, 6, none⟩ = false) := fun o => (((Below.refl _ w6).alloc (Nat.le_refl _) o).frozen (p := ⟨L.d, 6, none⟩) hd6).trans f6
    go_wp2_with fail
    go_cut [] from 7 (fun wr => Hid (∃ v, Holds wr { L with vec := v } { S.burn with now := (⟨sf.data.toList, st.data.toList, mk⟩ : Chg).run S.now, changes := S.changes ++ [⟨sf.data.toList, st.data.toList, mk⟩] } ∧ Turns (Own L) w wr ∧ ∀ b, v.ownBlock = some b → L.vec.ownBlock = some b ∨ w.heap.size ≤ b))
    case first =>
      go_region_law (first
        | (refine step_append_lies _ (by rfl) _ _ _ (by rfl) 0 62 i0 _ 3 40 Try.underlying55 hi hz0 hz1 hz2 (by rfl) (by omega) L.vec _ _ (by rfl) ((hraw.alloc _).drew)
            ⟨w6.heap.size, 0, none⟩ 1 1 [.string sf, .string st, gv] (by rfl) (by rfl) (World.news_of_block (cs := #[.string sf, .string st, gv]) (t := 62) (fr := (0, 0)) (heap_alloc_new w6 _)) HONE.out
            (by omega) (by have := HCL.out; unfold maxLen; omega) (by have := HCL.out; omega) (by omega) (w6.heap.size + 1) (by simp) ?_; intro gg cap w7 hown7 hg7 hat7 hlt7
           have k6 : w7.cell? ⟨L.d, 6, none⟩ = some L.vec := (hg7.cell_far ⟨L.d, 6, none⟩ (by simp; omega) (fun e => hvd e.symm)).trans (kk _).out
           have k7 : w7.frozen? ⟨L.d, 6, none⟩ = false := (hg7.frozen_far ⟨L.d, 6, none⟩ (by simp; omega) (fun e => hvd e.symm)).trans (kf _).out))
      all_goals
        go_wp2_with fail
        go_meet
        case rel =>
          have hh := ((HH6.out.alloc (.cells #[.string sf, .string st, gv] 62)).drew).setVec (w1 := w7) (.slice (some ⟨gg, 0, none⟩) (S.changes.length + 1) cap) (S.changes ++ [⟨sf.data.toList, st.data.toList, mk⟩]) hg7
            (by
              rw [List.length_append, List.flatMap_append]
              have e : [(⟨sf.data.toList, st.data.toList, mk⟩ : Chg)].flatMap (chgCells L.loc) = [.string sf, .string st, gv] := by rw [← HGV.out]; rfl
              rw [e]
              exact hown7)
            (fun b hb => by
              rcases hat7 with h1 | h1
              · left; rw [h1, ← hb]; rfl
              · right
                have : gg = b := by simpa [Value.ownBlock] using hb
                simp
                omega)
            (fun c hc i hi => by
              rcases List.mem_append.1 hc with h1 | h1
              · exact HH.out.inChg c h1 i hi
              · obtain rfl : c = _ := by simpa using h1
                exact HM.out i hi)
          refine Lib.hid ⟨_, hh, ?_, fun b hb => ?_⟩
          · exact ((HT6.out.alloc _).drew.trans (Turns.of_grown (P := fun k => L.vec.ownBlock = some k) hg7 (fun k e => e)) (fun x hx => Or.inl (Or.inr (Or.inr (Or.inr (Or.inl hx)))))).trans (Turns.of_setCell (P := fun k => k = L.d) _ ⟨L.d, 6, none⟩ _ rfl) (fun x hx => Or.inl (Or.inl hx))
          · rcases hat7 with h1 | h1
            · left; rw [h1, ← hb]; rfl
            · right
              have h2 : gg = b := by simpa [Value.ownBlock] using hb
              have := HT6.out.size
              omega
    case rest =>
      obtain ⟨v, hh, ht, hv⟩ := hcut.out
      obtain ⟨L', hL'⟩ : ∃ L' : Lay, L' = { L with vec := v } := ⟨_, rfl⟩
      rw [← hL'] at hh
      obtain ⟨S8, hS8⟩ : ∃ S8 : Disk, S8 = { S.burn with now := (⟨sf.data.toList, st.data.toList, mk⟩ : Chg).run S.now, changes := S.changes ++ [⟨sf.data.toList, st.data.toList, mk⟩] } := ⟨_, rfl⟩
      have hh8 : Holds wc L' S8 := by rw [hS8]; exact hh
      have hu8 : S8.used = S.used := by rw [hS8]; exact (burn_now S).2.2.2.2.2.1
      have hf8 : S8.file = S.file := by rw [hS8]; exact (burn_now S).2.2.2.1
      have HDID : ∀ n : Nat, Dk.sizeOf S.burn lost = n → S.burn.did ⟨sf.data.toList, st.data.toList, mk⟩ lost = { S8 with used := S.used - n } := fun n hn => by
        rw [hS8]
        unfold Disk.did
        rw [hn, (burn_now S).2.2.2.2.2.1, (burn_now S).1, (burn_now S).2.2.1]
      have HD := Lib.hid HDID; clear HDID
      have hld : L'.d = L.d := by rw [hL']
      have hll : L'.loc = L.loc := by rw [hL']
      have hlv' : L'.live = L.live := by rw [hL']
      have howns : ∀ b, Own L' b → Own L b ∨ w.heap.size ≤ b := fun b hb => by
        rw [hL'] at hb
        rcases hb with h1 | h1 | h1 | h1 | h1
        · exact Or.inl (Or.inl h1)
        · exact Or.inl (Or.inr (Or.inl h1))
        · exact Or.inl (Or.inr (Or.inr (Or.inl h1)))
        · rcases hv b h1 with h2 | h2
          · exact Or.inl (Or.inr (Or.inr (Or.inr (Or.inl h2))))
          · exact Or.inr h2
        · exact Or.inl (Or.inr (Or.inr (Or.inr (Or.inr h1))))
      have HOW := Lib.hid howns; have HT := Lib.hid ht; have H8 := Lib.hid hh8
      clear hcut howns ht hv hh hh8 hS8 hL'
      cases lost with
      | none =>
        have hlv0 : lv = .pointer none := HLV.out.symm
        subst hlv0
        go_wp2_with fail
        go_ret
        rw [HE.out, HD.out 0 rfl]
        refine ⟨rfl, L', hld, ?_, HT.out, HOW.out⟩
        have e : ({ S8 with used := S.used - (0 : Nat) } : Disk) = S8 := by rw [← hu8]; simp
        dsimp only
        rw [e]
        exact H8.out
      | some i =>
        have hlv0 : lv = .pointer (some ⟨L.loc i, 0, none⟩) := HLV.out.symm
        subst hlv0
        have hi8 : L'.live i := by rw [hlv']; exact HL.out i rfl
        have hfi := H8.out.file i hi8
        obtain ⟨a, cap, hsh⟩ := row_shape hfi.row
        have d0 : wc.cell? ⟨L.loc i, 0, none⟩ = some (.slice a (S.file i).data.length cap) := by rw [← hll, cell_of hfi.box, hsh, hf8]; rfl
        have d1 : wc.cell? ⟨L.d, 1, none⟩ = some (.int .i64 S.used) := by rw [← hld, ← hu8]; exact H8.out.cells.2.1
        have d2 : wc.frozen? ⟨L.d, 1, none⟩ = false := by rw [← hld]; exact H8.out.soft 1
        have hlen := HF.out.dat i
        have hm := HF.out.most
        have hl := HF.out.least
        obtain ⟨n, hn⟩ : ∃ n : Nat, n = (S.file i).data.length := ⟨_, rfl⟩
        have hsz : Dk.sizeOf S.burn (some i) = n := by unfold Dk.sizeOf; rw [(burn_now S).2.2.2.1, hn]
        rw [← hn] at d0 hlen
        have hlen2 : (n : Int) ≤ 1099511627776 := by omega
        have HSZ := Lib.hid hsz
        clear hsz hn hsh hfi hlen
        go_wp2_with fail
        go_region
        go_wp2_with fail
        go_ret
        rw [HE.out, HD.out n HSZ.out]
        refine ⟨rfl, L', hld, ?_, (HT.out.trans (Turns.of_setCell (P := fun k => k = L.d) wc ⟨L.d, 1, none⟩ _ rfl) (fun x hx => Or.inl (Or.inl hx))).drew, HOW.out⟩
        have hs := H8.out.setBox 1 (.int .i64 (S.used - n)) { S8 with used := S.used - n } rfl rfl rfl rfl rfl rfl
        rw [hld] at hs
        exact hs.drew

end Go.Proofs.Ytefoijamedciiaa
