/- Texts on the program's own functions, several in one: DkC, DkK, DkF, DkU. -/
import Derived.Test.YtfeconankopjmaaGreatDoorPk13
import Derived.Test.YtfeconankopjmaaGreatDoorPk14
import Derived.Test.YtfeconankopjmaaGreatDoorPk9
import Derived.Deep.RegionHeld3
import Derived.Deep.RegionLaw
import Derived.Deep.AppendLies
import Derived.BigQuiet
import Derived.Deep.Cut
import Derived.StillTailTactics
import Derived.Maps.AppendAt

/- The walk of disk.change. -/
namespace Go.Proofs.YtfeconankopjmaaGreatDoor
open Go.RowKit Go.Maps
open Dk (Dir Chg Disk File Str)

theorem box_new (w : World) (cs : Array Value) (t : TypeId) (j : Nat) : (w.alloc (.cells cs t (0, 0))).cell? ⟨w.heap.size, j, none⟩ = cs[j]? := cell_of (heap_alloc_new w _) j

theorem box_keep {w1 w' w'' : World} {p : Nat} {x y z : Value} (h : w'.cell? ⟨p, 0, none⟩ = some x ∧ w'.cell? ⟨p, 1, none⟩ = some y ∧ w'.cell? ⟨p, 2, none⟩ = some z ∧ p < w'.heap.size ∧ w'.frozen? ⟨p, 0, none⟩ = false ∧ w'.frozen? ⟨p, 1, none⟩ = false ∧ Below p w1 w')
    (hb : Below w'.heap.size w' w'') : w''.cell? ⟨p, 0, none⟩ = some x ∧ w''.cell? ⟨p, 1, none⟩ = some y ∧ w''.cell? ⟨p, 2, none⟩ = some z ∧ p < w''.heap.size ∧ w''.frozen? ⟨p, 0, none⟩ = false ∧ w''.frozen? ⟨p, 1, none⟩ = false ∧ Below p w1 w'' := by
  obtain ⟨h0, h1, h2, h3, h4, h5, h6⟩ := h
  exact ⟨(hb.cell (p := ⟨p, 0, none⟩) h3).trans h0, (hb.cell (p := ⟨p, 1, none⟩) h3).trans h1, (hb.cell (p := ⟨p, 2, none⟩) h3).trans h2, Nat.lt_of_lt_of_le h3 hb.size, (hb.frozen (p := ⟨p, 0, none⟩) h3).trans h4, (hb.frozen (p := ⟨p, 1, none⟩) h3).trans h5, h6.trans (hb.mono (Nat.le_of_lt h3))⟩
theorem box_set0 {w1 w' : World} {p : Nat} {x y z : Value} (h : w'.cell? ⟨p, 0, none⟩ = some x ∧ w'.cell? ⟨p, 1, none⟩ = some y ∧ w'.cell? ⟨p, 2, none⟩ = some z ∧ p < w'.heap.size ∧ w'.frozen? ⟨p, 0, none⟩ = false ∧ w'.frozen? ⟨p, 1, none⟩ = false ∧ Below p w1 w') :
    (w'.setCell ⟨p, 0, none⟩ x).cell? ⟨p, 0, none⟩ = some x ∧ (w'.setCell ⟨p, 0, none⟩ x).cell? ⟨p, 1, none⟩ = some y ∧ (w'.setCell ⟨p, 0, none⟩ x).cell? ⟨p, 2, none⟩ = some z ∧ p < (w'.setCell ⟨p, 0, none⟩ x).heap.size ∧ (w'.setCell ⟨p, 0, none⟩ x).frozen? ⟨p, 0, none⟩ = false ∧ (w'.setCell ⟨p, 0, none⟩ x).frozen? ⟨p, 1, none⟩ = false ∧ Below p w1 (w'.setCell ⟨p, 0, none⟩ x) := by
  obtain ⟨h0, h1, h2, h3, h4, h5, h6⟩ := h
  exact ⟨World.cell?_setCell_same _ _ _ h0, (World.cell?_setCell_other _ _ _ _ (by simp)).trans h1, (World.cell?_setCell_other _ _ _ _ (by simp)).trans h2, by simpa [World.setCell] using h3, by rw [World.frozen?_setCell]; exact h4, by rw [World.frozen?_setCell]; exact h5, h6.trans ⟨rfl, rfl, rfl, by simp [World.setCell], fun k hk => RowKit.Below.heap_setCell _ _ _ _ (by simp; omega)⟩⟩
theorem box_set1 {w1 w' : World} {p : Nat} {x y z : Value} (h : w'.cell? ⟨p, 0, none⟩ = some x ∧ w'.cell? ⟨p, 1, none⟩ = some y ∧ w'.cell? ⟨p, 2, none⟩ = some z ∧ p < w'.heap.size ∧ w'.frozen? ⟨p, 0, none⟩ = false ∧ w'.frozen? ⟨p, 1, none⟩ = false ∧ Below p w1 w') :
    (w'.setCell ⟨p, 1, none⟩ y).cell? ⟨p, 0, none⟩ = some x ∧ (w'.setCell ⟨p, 1, none⟩ y).cell? ⟨p, 1, none⟩ = some y ∧ (w'.setCell ⟨p, 1, none⟩ y).cell? ⟨p, 2, none⟩ = some z ∧ p < (w'.setCell ⟨p, 1, none⟩ y).heap.size ∧ (w'.setCell ⟨p, 1, none⟩ y).frozen? ⟨p, 0, none⟩ = false ∧ (w'.setCell ⟨p, 1, none⟩ y).frozen? ⟨p, 1, none⟩ = false ∧ Below p w1 (w'.setCell ⟨p, 1, none⟩ y) := by
  obtain ⟨h0, h1, h2, h3, h4, h5, h6⟩ := h
  exact ⟨(World.cell?_setCell_other _ _ _ _ (by simp)).trans h0, World.cell?_setCell_same _ _ _ h1, (World.cell?_setCell_other _ _ _ _ (by simp)).trans h2, by simpa [World.setCell] using h3, by rw [World.frozen?_setCell]; exact h4, by rw [World.frozen?_setCell]; exact h5, h6.trans ⟨rfl, rfl, rfl, by simp [World.setCell], fun k hk => RowKit.Below.heap_setCell _ _ _ _ (by simp; omega)⟩⟩

theorem four_keep {w' w'' : World} {p d bn : Nat} {x y z v : Value} (h : w'.cell? ⟨p, 0, none⟩ = some x ∧ w'.cell? ⟨p, 1, none⟩ = some y ∧ w'.cell? ⟨p, 2, none⟩ = some z ∧ w'.cell? ⟨d, 4, none⟩ = some v ∧ p < w'.heap.size ∧ d < w'.heap.size)
    (hp : p ≠ bn) (hd : d ≠ bn) (ht : Turns (fun k => k = bn) w' w'') : w''.cell? ⟨p, 0, none⟩ = some x ∧ w''.cell? ⟨p, 1, none⟩ = some y ∧ w''.cell? ⟨p, 2, none⟩ = some z ∧ w''.cell? ⟨d, 4, none⟩ = some v ∧ p < w''.heap.size ∧ d < w''.heap.size := by
  obtain ⟨h0, h1, h2, h3, h4, h5⟩ := h
  exact ⟨cell_kept h0 (ht.block p h4 hp), cell_kept h1 (ht.block p h4 hp), cell_kept h2 (ht.block p h4 hp), cell_kept h3 (ht.block d h5 hd), Nat.lt_of_lt_of_le h4 ht.size, Nat.lt_of_lt_of_le h5 ht.size⟩

theorem info_chg : (Tryz.prog.info? 133).map (fun i => (i.zero, i.size, i.bytes)) = some (some (.agg #[.string ⟨#[]⟩, .string ⟨#[]⟩, .pointer none]), 3, 40) := by kernel_rfl

set_option maxHeartbeats 4000000 in
set_option maxRecDepth 100000 in
theorem change_any {L : Lay} {S : Disk} (w : World) (h : Holds w L S) (F : Fits S) (sf st : ByteArray) (mk lost : Option Nat) (hcan : (⟨sf.data.toList, st.data.toList, mk⟩ : Chg).Can S.now)
    (hmk : ∀ i, mk = some i → L.live i) (hlost : ∀ i, lost = some i → L.live i) (hs1 : sf.size ≤ 281474976710656) (hs2 : st.size ≤ 281474976710656) :
    Calls Tryz.prog 84 #[.pointer (some ⟨L.d, 0, none⟩), .agg #[.string sf, .string st, fileV L.loc mk], fileV L.loc lost] w fun e w' =>
      e = .returned (.int .i64 (S.change ⟨sf.data.toList, st.data.toList, mk⟩ lost).1) ∧ Goes L w (S.change ⟨sf.data.toList, st.data.toList, mk⟩ lost).2 w' := by
  have HF := Lib.hid F; clear F
  have hbx := h.alloc (.cells #[.string sf, .string st, fileV L.loc mk] 133)
  have HB := Lib.hid (burns_any _ hbx HF.out.fuse)
  have hdl : L.d < w.heap.size := h.own_lt (Or.inl rfl)
  have HH := Lib.hid h; clear h hbx
  have HM := Lib.hid hmk; have HL := Lib.hid hlost; have HC := Lib.hid hcan; clear hmk hlost hcan
  have H1 := Lib.hid hs1; have H2 := Lib.hid hs2; clear hs1 hs2
  generalize hgv : fileV L.loc mk = gv at HB ⊢
  generalize hlv : fileV L.loc lost = lv
  have HGV := Lib.hid hgv; have HLV := Lib.hid hlv; clear hgv hlv
  obtain ⟨R, hR⟩ : ∃ R, R = S.change ⟨sf.data.toList, st.data.toList, mk⟩ lost := ⟨_, rfl⟩
  rw [← hR]
  unfold Disk.change at hR
  have HR := Lib.hid hR; clear hR
  go_enter Tryz.func84, Tryz.ntmps84
  go_wp2_with fail
  refine HB.out.mono ?_
  rintro e w1 ⟨rfl, hh1, ht1, hz1⟩
  rw [World.size_alloc] at hz1
  have hk1 := ht1.block w.heap.size (by simp) (by omega)
  have HW1 : Hid (w1.heap[w.heap.size]? = some (.cells #[.string sf, .string st, gv] 133 (0, 0))) := Lib.hid (hk1.trans (heap_alloc_new w _))
  have HT1 : Hid (Turns (Own L) w w1) := Lib.hid ((Turns.of_below (P := Own L) ((Below.refl _ w).alloc (Nat.le_refl _) _)).trans (ht1.mono (Q := Own L) (fun x hx => Or.inl (Or.inl hx))) (fun _ hx => Or.inl hx))
  have HH1 := Lib.hid hh1
  clear hh1 ht1 hk1 HB
  cases hb : S.burnt with
  | true =>
    have HE : Hid (R = (7, S.burn)) := by have := HR.out; rw [hb] at this; exact Lib.hid this
    go_wp2_with fail
    go_ret
    rw [HE.out]
    exact ⟨rfl, L, rfl, HH1.out, HT1.out, fun b hb => Or.inl hb⟩
  | false =>
    have HE : Hid (R = (0, S.burn.did ⟨sf.data.toList, st.data.toList, mk⟩ lost)) := by have := HR.out; rw [hb] at this; exact Lib.hid this
    clear HR hb
    obtain ⟨c0, c1, c2, c3, c4, c5, c6⟩ := HH1.out.cells
    have a0 : w1.cell? ⟨w.heap.size, 0, none⟩ = some (.string sf) := by rw [cell_of HW1.out]; rfl
    have a1 : w1.cell? ⟨w.heap.size, 1, none⟩ = some (.string st) := by rw [cell_of HW1.out]; rfl
    have a2 : w1.cell? ⟨w.heap.size, 2, none⟩ = some gv := by rw [cell_of HW1.out]; rfl
    have f0 := unfrozen_of HW1.out 0
    have f1 := unfrozen_of HW1.out 1
    go_wp2_with fail
    have hp1 : w.heap.size < w1.heap.size := by omega
    generalize hpp : w.heap.size = p at *
    have HPP := Lib.hid hpp; clear hpp
    go_region_held3 (fun w' => w'.cell? ⟨p, 0, none⟩ = some (.string sf) ∧ w'.cell? ⟨p, 1, none⟩ = some (.string st) ∧ w'.cell? ⟨p, 2, none⟩ = some gv ∧ p < w'.heap.size ∧ w'.frozen? ⟨p, 0, none⟩ = false ∧ w'.frozen? ⟨p, 1, none⟩ = false ∧ Below p w1 w')
      (first | exact ⟨a0, a1, a2, hp1, f0, f1, rfl, rfl, rfl, Nat.le_refl _, fun _ _ => rfl⟩ | exact box_keep (by assumption) hb4 | exact box_set0 (by assumption) | exact box_set1 (by assumption))
      (first | (go_at_call 95; refine (clone_any sf _ H1.out).mono ?_; rintro e w4 ⟨rfl, hb4⟩) | (go_at_call 95; refine (clone_any st _ H2.out).mono ?_; rintro e w4 ⟨rfl, hb4⟩))
    have hS := ‹_ ∧ _ ∧ _ ∧ _ ∧ _ ∧ _ ∧ Below p w1 ((w4.setCell ⟨p, 0, none⟩ (.string sf)).setCell ⟨p, 1, none⟩ (.string st))›
    generalize (w4.setCell ⟨p, 0, none⟩ (.string sf)).setCell ⟨p, 1, none⟩ (.string st) = w5 at *
    clear a0 a1 a2 f0 f1 c0 c1 c2 c3 c4 c5 c6 hb4
    obtain ⟨a0, a1, a2, hp5, _, _, hbel5⟩ := hS
    have hown_p : ∀ b, Own L b → b < p := fun b hb => by have := HH.out.own_lt hb; have := HPP.out; omega
    have HO := Lib.hid hown_p
    have HH5 : Hid (Holds w5 L S.burn) := Lib.hid (HH1.out.frame fun b hb => hbel5.block b (hown_p b hb))
    have HT5 : Hid (Turns (Own L) w w5) := Lib.hid (HT1.out.trans (P := Own L) (Q := fun k => p ≤ k) ⟨hbel5.os, hbel5.tape, hbel5.output, hbel5.size, fun k _ hk => hbel5.block k (by omega)⟩ (fun x hx => Or.inr (by rw [HPP.out]; exact hx)))
    clear hbel5 hown_p HT1 HH1 HW1
    rename_i hx1 hx2
    clear hx1 hx2
    have hpn : p ≠ L.bn := fun e => by have := HO.out L.bn (Or.inr (Or.inl rfl)); omega
    have hdn : L.d ≠ L.bn := fun e => HH.out.lone.bn_d e.symm
    have c4 := HH5.out.cells.2.2.2.2.1
    have hd5 : L.d < w5.heap.size := by omega
    have HN : Hid (w5.ownsMap Tryz.prog 9 ptrElem L.bn S.now.length (toD L.loc S.now)) := by
      have := HH5.out.now
      rw [(burn_now S).1] at this
      exact Lib.hid this
    have hnl : S.now.length < maxLen := by have := HF.out.now; unfold maxLen; omega
    have hl1 : sf.size ≤ maxLen := by have := H1.out; unfold maxLen; omega
    have hl2 : st.size ≤ maxLen := by have := H2.out; unfold maxLen; omega
    have HD := fun w' h' => Lib.hid (do_any L.loc sf st mk S.now L.bn w' h' HC.out hl1 hl2 hnl)
    rw [HGV.out] at HD
    clear hnl hl1 hl2
    go_wp2_with fail
    go_region_held3 (fun w' => w'.cell? ⟨p, 0, none⟩ = some (.string sf) ∧ w'.cell? ⟨p, 1, none⟩ = some (.string st) ∧ w'.cell? ⟨p, 2, none⟩ = some gv ∧ w'.cell? ⟨L.d, 4, none⟩ = some (.map (some L.bn)) ∧ p < w'.heap.size ∧ L.d < w'.heap.size)
      (first | exact ⟨a0, a1, a2, c4, hp5, hd5⟩ | exact four_keep (by assumption) hpn hdn ht6)
      (first | (go_at_call 74; refine (HD _ HN.out.drew).out.mono ?_; rintro e w6 ⟨rfl, ⟨n6, ho6⟩, ht6⟩))
    have hS := ‹w6.cell? ⟨p, 0, none⟩ = some (.string sf) ∧ _›
    rename_i hx3
    clear hx3 a0 a1 a2 c4 hp5 hd5 HD
    obtain ⟨a0, a1, a2, _, hp6, hd6⟩ := hS
    have HH6 : Hid (Holds w6 L { S.burn with now := (⟨sf.data.toList, st.data.toList, mk⟩ : Chg).run S.now }) := Lib.hid (HH5.out.drew.setNow ⟨ht6.os, ht6.tape, ht6.output, ht6.size, fun k hk hne => ht6.block k hk (fun e => hne (by rw [e]))⟩ _ ho6 (fun q hq => by
      rcases Dk.id_run hq with ⟨z, hz, he⟩ | he
      · rw [← he]; exact HH.out.inNow z hz
      · exact HM.out _ he))
    have HT6 : Hid (Turns (Own L) w w6) := Lib.hid (HT5.out.drew.trans ht6 (fun x hx => Or.inl (by rw [hx]; exact Or.inr (Or.inl rfl))))
    clear ht6 ho6 HN HH5 HT5
    obtain ⟨i0, hi, hz0, hz1, hz2⟩ := info_parts info_chg
    have hraw : w6.ownsRow 0 133 3 L.vec S.changes.length (S.changes.flatMap (chgCells L.loc)) := by
      have := HH6.out.chg
      dsimp only at this
      rw [(burn_now S).2.2.1] at this
      exact this
    have c6 := HH6.out.cells.2.2.2.2.2.2
    have f6 := HH6.out.soft 6
    have hvd := fun e => (HH6.out.lone.vec_d L.d e).1 rfl
    have hone : ∀ u ∈ [Value.string sf, .string st, gv], u.oneCell' = true := by
      rw [← HGV.out]
      intro u hu
      simp only [List.mem_cons, List.not_mem_nil, or_false] at hu
      rcases hu with rfl | rfl | rfl
      · rfl
      · rfl
      · cases mk <;> rfl
    have HONE := Lib.hid hone; clear hone
    have hcl := HF.out.chg
    have HCL := Lib.hid hcl; clear hcl
    have kk : ∀ o, Hid ((w6.alloc o).cell? ⟨L.d, 6, none⟩ = some L.vec) := fun o => (((Below.refl _ w6).alloc (Nat.le_refl _) o).cell (p := ⟨L.d, 6, none⟩) hd6).trans c6
    have kf : ∀ o, Hid ((w6.alloc o).frozen? ⟨L.d, 6, none⟩ = false) := fun o => (((Below.refl _ w6).alloc (Nat.le_refl _) o).frozen (p := ⟨L.d, 6, none⟩) hd6).trans f6
    go_wp2_with fail
    go_cut [] from 7 (fun wr => Hid (∃ v, Holds wr { L with vec := v } { S.burn with now := (⟨sf.data.toList, st.data.toList, mk⟩ : Chg).run S.now, changes := S.changes ++ [⟨sf.data.toList, st.data.toList, mk⟩] } ∧ Turns (Own L) w wr ∧ ∀ b, v.ownBlock = some b → L.vec.ownBlock = some b ∨ w.heap.size ≤ b))
    case first =>
      go_region_law (first
        | (refine step_append_lies _ (by rfl) _ _ _ (by rfl) 0 133 i0 _ 3 40 Tryz.underlying87 hi hz0 hz1 hz2 (by rfl) (by omega) L.vec _ _ (by rfl) ((hraw.alloc _).drew)
            ⟨w6.heap.size, 0, none⟩ 1 1 [.string sf, .string st, gv] (by rfl) (by rfl) (World.news_of_block (cs := #[.string sf, .string st, gv]) (t := 133) (fr := (0, 0)) (heap_alloc_new w6 _)) HONE.out
            (by omega) (by have := HCL.out; unfold maxLen; omega) (by have := HCL.out; omega) (by omega) (w6.heap.size + 1) (by simp) ?_; intro gg cap w7 hown7 hg7 hat7 hlt7
           have k6 : w7.cell? ⟨L.d, 6, none⟩ = some L.vec := (hg7.cell_far ⟨L.d, 6, none⟩ (by simp; omega) (fun e => hvd e.symm)).trans (kk _).out
           have k7 : w7.frozen? ⟨L.d, 6, none⟩ = false := (hg7.frozen_far ⟨L.d, 6, none⟩ (by simp; omega) (fun e => hvd e.symm)).trans (kf _).out))
      all_goals
        go_wp2_with fail
        go_meet
        case rel =>
          have hh := ((HH6.out.alloc (.cells #[.string sf, .string st, gv] 133)).drew).setVec (w1 := w7) (.slice (some ⟨gg, 0, none⟩) (S.changes.length + 1) cap) (S.changes ++ [⟨sf.data.toList, st.data.toList, mk⟩]) hg7
            (by
              rw [List.length_append, List.flatMap_append]
              have e : [(⟨sf.data.toList, st.data.toList, mk⟩ : Chg)].flatMap (chgCells L.loc) = [.string sf, .string st, gv] := by rw [← HGV.out]; rfl
              rw [e]
              exact hown7)
            (fun b hb => by
              rcases hat7 with h1 | h1
              · left; rw [h1, ← hb]; rfl
              · right
                have : gg = b := by simpa [Value.ownBlock] using hb
                simp
                omega)
            (fun c hc i hi => by
              rcases List.mem_append.1 hc with h1 | h1
              · exact HH.out.inChg c h1 i hi
              · obtain rfl : c = _ := by simpa using h1
                exact HM.out i hi)
          refine Lib.hid ⟨_, hh, ?_, fun b hb => ?_⟩
          · exact ((HT6.out.alloc _).drew.trans (Turns.of_grown (P := fun k => L.vec.ownBlock = some k) hg7 (fun k e => e)) (fun x hx => Or.inl (Or.inr (Or.inr (Or.inr (Or.inl hx)))))).trans (Turns.of_setCell (P := fun k => k = L.d) _ ⟨L.d, 6, none⟩ _ rfl) (fun x hx => Or.inl (Or.inl hx))
          · rcases hat7 with h1 | h1
            · left; rw [h1, ← hb]; rfl
            · right
              have h2 : gg = b := by simpa [Value.ownBlock] using hb
              have := HT6.out.size
              omega
    case rest =>
      obtain ⟨v, hh, ht, hv⟩ := hcut.out
      obtain ⟨L', hL'⟩ : ∃ L' : Lay, L' = { L with vec := v } := ⟨_, rfl⟩
      rw [← hL'] at hh
      obtain ⟨S8, hS8⟩ : ∃ S8 : Disk, S8 = { S.burn with now := (⟨sf.data.toList, st.data.toList, mk⟩ : Chg).run S.now, changes := S.changes ++ [⟨sf.data.toList, st.data.toList, mk⟩] } := ⟨_, rfl⟩
      have hh8 : Holds wc L' S8 := by rw [hS8]; exact hh
      have hu8 : S8.used = S.used := by rw [hS8]; exact (burn_now S).2.2.2.2.2.1
      have hf8 : S8.file = S.file := by rw [hS8]; exact (burn_now S).2.2.2.1
      have HDID : ∀ n : Nat, Dk.sizeOf S.burn lost = n → S.burn.did ⟨sf.data.toList, st.data.toList, mk⟩ lost = { S8 with used := S.used - n } := fun n hn => by
        rw [hS8]
        unfold Disk.did
        rw [hn, (burn_now S).2.2.2.2.2.1, (burn_now S).1, (burn_now S).2.2.1]
      have HD := Lib.hid HDID; clear HDID
      have hld : L'.d = L.d := by rw [hL']
      have hll : L'.loc = L.loc := by rw [hL']
      have hlv' : L'.live = L.live := by rw [hL']
      have howns : ∀ b, Own L' b → Own L b ∨ w.heap.size ≤ b := fun b hb => by
        rw [hL'] at hb
        rcases hb with h1 | h1 | h1 | h1 | h1
        · exact Or.inl (Or.inl h1)
        · exact Or.inl (Or.inr (Or.inl h1))
        · exact Or.inl (Or.inr (Or.inr (Or.inl h1)))
        · rcases hv b h1 with h2 | h2
          · exact Or.inl (Or.inr (Or.inr (Or.inr (Or.inl h2))))
          · exact Or.inr h2
        · exact Or.inl (Or.inr (Or.inr (Or.inr (Or.inr h1))))
      have HOW := Lib.hid howns; have HT := Lib.hid ht; have H8 := Lib.hid hh8
      clear hcut howns ht hv hh hh8 hS8 hL'
      cases lost with
      | none =>
        have hlv0 : lv = .pointer none := HLV.out.symm
        subst hlv0
        go_wp2_with fail
        go_ret
        rw [HE.out, HD.out 0 rfl]
        refine ⟨rfl, L', hld, ?_, HT.out, HOW.out⟩
        have e : ({ S8 with used := S.used - (0 : Nat) } : Disk) = S8 := by rw [← hu8]; simp
        dsimp only
        rw [e]
        exact H8.out
      | some i =>
        have hlv0 : lv = .pointer (some ⟨L.loc i, 0, none⟩) := HLV.out.symm
        subst hlv0
        have hi8 : L'.live i := by rw [hlv']; exact HL.out i rfl
        have hfi := H8.out.file i hi8
        obtain ⟨a, cap, hsh⟩ := row_shape hfi.row
        have d0 : wc.cell? ⟨L.loc i, 0, none⟩ = some (.slice a (S.file i).data.length cap) := by rw [← hll, cell_of hfi.box, hsh, hf8]; rfl
        have d1 : wc.cell? ⟨L.d, 1, none⟩ = some (.int .i64 S.used) := by rw [← hld, ← hu8]; exact H8.out.cells.2.1
        have d2 : wc.frozen? ⟨L.d, 1, none⟩ = false := by rw [← hld]; exact H8.out.soft 1
        have hlen := HF.out.dat i
        have hm := HF.out.most
        have hl := HF.out.least
        obtain ⟨n, hn⟩ : ∃ n : Nat, n = (S.file i).data.length := ⟨_, rfl⟩
        have hsz : Dk.sizeOf S.burn (some i) = n := by unfold Dk.sizeOf; rw [(burn_now S).2.2.2.1, hn]
        rw [← hn] at d0 hlen
        have hlen2 : (n : Int) ≤ 1099511627776 := by omega
        have HSZ := Lib.hid hsz
        clear hsz hn hsh hfi hlen
        go_wp2_with fail
        go_region
        go_wp2_with fail
        go_ret
        rw [HE.out, HD.out n HSZ.out]
        refine ⟨rfl, L', hld, ?_, (HT.out.trans (Turns.of_setCell (P := fun k => k = L.d) wc ⟨L.d, 1, none⟩ _ rfl) (fun x hx => Or.inl (Or.inl hx))).drew, HOW.out⟩
        have hs := H8.out.setBox 1 (.int .i64 (S.used - n)) { S8 with used := S.used - n } rfl rfl rfl rfl rfl rfl
        rw [hld] at hs
        exact hs.drew

end Go.Proofs.YtfeconankopjmaaGreatDoor

/- The walks of keepChanges, DirSync over a disk that lies in memory. -/
namespace Go.Proofs.YtfeconankopjmaaGreatDoor
open Go.RowKit Go.Maps
open Dk (Dir Chg Disk File Str)

theorem flat3 {α : Type} (f : Chg → List α) (hf : ∀ c, (f c).length = 3) : ∀ (l : List Chg) (k j : Nat) (c : Chg), l[k]? = some c → j < 3 → (l.flatMap f)[3 * k + j]? = (f c)[j]?
  | [], k, j, c, h, _ => by simp at h
  | x :: r, 0, j, c, h, hj => by
    simp only [List.getElem?_cons_zero, Option.some.injEq] at h
    subst h
    rw [List.flatMap_cons, List.getElem?_append_left (by rw [hf]; omega), Nat.mul_zero, Nat.zero_add]
  | x :: r, k + 1, j, c, h, hj => by
    rw [List.getElem?_cons_succ] at h
    rw [List.flatMap_cons, List.getElem?_append_right (by rw [hf]; omega), hf, show 3 * (k + 1) + j - 3 = 3 * k + j by omega]
    exact flat3 f hf r k j c h hj

/-- The cells of the k-th change. -/
theorem Holds.chgAt {w : World} {L : Lay} {S : Disk} (h : Holds w L S) {g cap : Nat} {n : Nat} (hv : L.vec = .slice (some ⟨g, 0, none⟩) n cap) {k : Nat} {c : Chg} (hc : S.changes[k]? = some c) :
    w.cell? ⟨g, k * 3, none⟩ = some (.string ⟨c.src.toArray⟩) ∧ w.cell? ⟨g, k * 3 + 1, none⟩ = some (.string ⟨c.dst.toArray⟩) ∧ w.cell? ⟨g, k * 3 + 2, none⟩ = some (fileV L.loc c.made) := by
  have hr := h.chg
  rw [hv] at hr
  have e : ∀ j, (⟨g, 0, none⟩ : Addr).add j = ⟨g, j, none⟩ := fun j => by unfold Addr.add; split <;> simp_all
  have hcell := hr.cells (g := g) rfl
  have hx : ∀ j, j < 3 → ∀ v, (chgCells L.loc c)[j]? = some v → w.cell? ⟨g, k * 3 + j, none⟩ = some v := fun j hj v hv => by
    rw [Nat.mul_comm k 3]
    have := hcell (3 * k + j) v (by rw [flat3 _ (fun _ => rfl) _ k j c hc hj]; exact hv)
    rw [e] at this
    exact this
  exact ⟨hx 0 (by omega) _ rfl, hx 1 (by omega) _ rfl, hx 2 (by omega) _ rfl⟩

theorem cans_take {cs : List Chg} {d : Dir} (h : Dk.Cans cs d) {k : Nat} {c : Chg} (hc : cs[k]? = some c) : c.Can (Dk.runs (cs.take k) d) ∧ Dk.runs (cs.take (k + 1)) d = c.run (Dk.runs (cs.take k) d) := by
  have hk : k < cs.length := by
    rcases Nat.lt_or_ge k cs.length with h1 | h1
    · exact h1
    · rw [List.getElem?_eq_none h1] at hc; cases hc
  have hk2 : cs[k] = c := by rw [List.getElem?_eq_getElem hk] at hc; simpa using hc
  constructor
  · have e : cs = cs.take k ++ (c :: cs.drop (k + 1)) := by rw [← hk2, List.getElem_cons_drop, List.take_append_drop]
    rw [e] at h
    exact (Dk.cans_append.1 h).2.1
  · rw [List.take_succ_eq_append_getElem hk, Dk.runs_append, hk2]
    rfl
theorem id_runs : ∀ {cs : List Chg} {d : Dir} {y : Str × Nat}, y ∈ Dk.runs cs d → (∃ z ∈ d, z.2 = y.2) ∨ ∃ c ∈ cs, c.made = some y.2
  | [], d, y, h => Or.inl ⟨y, h, rfl⟩
  | c :: r, d, y, h => by
    rcases id_runs (cs := r) h with ⟨z, hz, he⟩ | ⟨c', hc', he⟩
    · rcases Dk.id_run hz with ⟨x, hx, hxe⟩ | hm
      · exact Or.inl ⟨x, hx, hxe.trans he⟩
      · exact Or.inr ⟨c, List.mem_cons_self .., by rw [hm, he]⟩
    · exact Or.inr ⟨c', List.mem_cons_of_mem _ hc', he⟩
theorem length_ins (x : Str × Nat) : ∀ d : Dir, (Dk.ins x d).length = d.length + 1
  | [] => rfl
  | y :: r => by
    unfold Dk.ins
    split
    · rfl
    · simp [length_ins x r]
theorem length_run (c : Chg) (d : Dir) : (c.run d).length ≤ d.length + 1 := by
  have hd : ∀ s, (Dk.del s d).length ≤ d.length := fun s => List.length_filter_le _ _
  have h1 : (if c.src = [] then d else Dk.del c.src d).length ≤ d.length := by
    split
    · exact Nat.le_refl _
    · exact hd _
  unfold Chg.run
  simp only
  split
  · omega
  · split
    · unfold Dk.put
      rw [length_ins]
      have := List.length_filter_le (fun p : Str × Nat => !(p.1 == c.dst)) (if c.src = [] then d else Dk.del c.src d)
      unfold Dk.del at *
      omega
    · omega
theorem length_runs : ∀ (cs : List Chg) (d : Dir), (Dk.runs cs d).length ≤ d.length + cs.length
  | [], d => by simp [Dk.runs]
  | c :: r, d => by
    have h1 := length_runs r (c.run d)
    have h2 := length_run c d
    simp only [Dk.runs, List.length_cons]
    omega

theorem four_keep5 {w' w'' : World} {p d bn : Nat} {x y z v : Value} (h : w'.cell? ⟨p, 0, none⟩ = some x ∧ w'.cell? ⟨p, 1, none⟩ = some y ∧ w'.cell? ⟨p, 2, none⟩ = some z ∧ w'.cell? ⟨d, 5, none⟩ = some v ∧ p < w'.heap.size ∧ d < w'.heap.size)
    (hp : p ≠ bn) (hd : d ≠ bn) (ht : Turns (fun k => k = bn) w' w'') : w''.cell? ⟨p, 0, none⟩ = some x ∧ w''.cell? ⟨p, 1, none⟩ = some y ∧ w''.cell? ⟨p, 2, none⟩ = some z ∧ w''.cell? ⟨d, 5, none⟩ = some v ∧ p < w''.heap.size ∧ d < w''.heap.size := by
  obtain ⟨h0, h1, h2, h3, h4, h5⟩ := h
  exact ⟨cell_kept h0 (ht.block p h4 hp), cell_kept h1 (ht.block p h4 hp), cell_kept h2 (ht.block p h4 hp), cell_kept h3 (ht.block d h5 hd), Nat.lt_of_lt_of_le h4 ht.size, Nat.lt_of_lt_of_le h5 ht.size⟩

set_option maxHeartbeats 4000000 in
set_option maxRecDepth 100000 in
theorem keep_any {L : Lay} {S : Disk} (w : World) (h : Holds w L S) (F : Fits S) (hcan : Dk.Cans S.changes S.lasting) (hsz : ∀ c ∈ S.changes, c.src.length ≤ maxLen ∧ c.dst.length ≤ maxLen) (n : Nat) (hn : n ≤ S.changes.length) :
    Calls Tryz.prog 70 #[.pointer (some ⟨L.d, 0, none⟩), .int .i64 (n : Int)] w fun e w' => e = .returned (.tuple #[]) ∧ Goes L w (S.keep n) w' := by
  obtain ⟨c0, c1, c2, c3, c4, c5, c6⟩ := h.cells
  have HF := Lib.hid F; clear F
  have HC := Lib.hid hcan; have HZ := Lib.hid hsz
  have hrow := h.chg
  rcases hrow.2 with ⟨hv, h0⟩ | ⟨g, cap, cur, hv, _, hg, hnc, hcm, hcs, htake⟩
  · obtain rfl : n = 0 := by omega
    rw [hv] at c6
    have f6 := h.soft 6
    have HH := Lib.hid h
    clear h hrow hv h0 hcan hsz hn
    go_enter Tryz.func70, Tryz.ntmps70
    go_wp2_with fail
    go_loopw [13] (fun z wr => z = .int .i64 0 ∧ wr = w) (fun _ _ => 0)
    case atStart => exact ⟨rfl, rfl⟩
    case round =>
      obtain ⟨rfl, rfl⟩ := hrel
      go_wp2_with fail
      go_end0
      have hh := HH.out.setVec (w1 := wr) (.slice none 0 0) [] ⟨rfl, rfl, rfl, Nat.le_refl _, fun _ _ _ => rfl⟩ (World.ownsRow_nil ..) (fun b hb => by simp [Value.ownBlock] at hb) (fun c hc => by simp at hc)
      refine ⟨rfl, { L with vec := .slice none 0 0 }, rfl, hh, Turns.of_setCell (P := Own L) wr ⟨L.d, 6, none⟩ _ (Or.inl rfl), fun b hb => Or.inl ?_⟩
      rcases hb with h1 | h1 | h1 | h1 | h1
      · exact Or.inl h1
      · exact Or.inr (Or.inl h1)
      · exact Or.inr (Or.inr (Or.inl h1))
      · simp [Value.ownBlock] at h1
      · exact Or.inr (Or.inr (Or.inr (Or.inr h1)))
  · have hni : (n : Int) ≤ (cap : Int) := by omega
    have hn9 : (n : Int) ≤ 1099511627776 := by have := HF.out.chg; omega
    have hcap : (cap : Int) ≤ 9223372036854775807 := by unfold maxLen at hcm; omega
    rw [hv] at c6
    have HV := Lib.hid hv
    have HN := Lib.hid hn
    have HH := Lib.hid h
    clear h hrow hv hn hcm hcs htake hg hnc hcan hsz
    go_enter Tryz.func70, Tryz.ntmps70
    go_wp2_with fail
    go_loopw [13] (fun z wr => ∃ k : Nat, k ≤ n ∧ z = .int .i64 (k : Int) ∧ Hid (Holds wr L { S with lasting := Dk.runs (S.changes.take k) S.lasting } ∧ Turns (Own L) w wr)) (fun z _ => n - (intOf z).toNat)
    case atStart => exact ⟨0, by omega, rfl, Lib.hid ⟨HH.out, Turns.refl _ _⟩⟩
    case round =>
      obtain ⟨k, hk, rfl, HK⟩ := hrel
      by_cases hlt : k < n
      · have hlt2 : (k : Int) < n := by omega
        obtain ⟨c, hc⟩ : ∃ c, S.changes[k]? = some c := ⟨_, List.getElem?_eq_getElem (by have := HN.out; omega)⟩
        obtain ⟨a0, a1, a2⟩ := HK.out.1.chgAt HV.out hc
        have c5 := HK.out.1.cells.2.2.2.2.2.1
        have HCC := Lib.hid hc; clear hc
        obtain ⟨po, hpo⟩ : ∃ po, fileV L.loc c.made = .pointer po := by cases c.made <;> exact ⟨_, rfl⟩
        rw [hpo] at a2
        have HPO := Lib.hid hpo; clear hpo
        generalize hsf : (⟨c.src.toArray⟩ : ByteArray) = sf at a0
        generalize hst : (⟨c.dst.toArray⟩ : ByteArray) = st at a1
        have HSF := Lib.hid hsf; have HST := Lib.hid hst; clear hsf hst
        obtain ⟨p, hp⟩ : ∃ p, p = wr.heap.size := ⟨_, rfl⟩
        have hpl : p ≠ L.bl := fun e => by have := HK.out.1.old.lt; omega
        have hdl : L.d ≠ L.bl := fun e => HK.out.1.lone.bl_d e.symm
        have hd5 : L.d < wr.heap.size := heap_lt HK.out.1.box
        have HB2 : ∀ o, Hid (Below wr.heap.size wr (wr.alloc o)) := fun o => Lib.hid ((Below.refl _ _).alloc (Nat.le_refl _) o)
        have c5b : ∀ o, Hid ((wr.alloc o).cell? ⟨L.d, 5, none⟩ = some (.map (some L.bl))) := fun o => Lib.hid (((HB2 o).out.cell (p := ⟨L.d, 5, none⟩) hd5).trans c5)
        have HH5 : ∀ o, Hid (Holds (wr.alloc o) L { S with lasting := Dk.runs (S.changes.take k) S.lasting }) := fun o => Lib.hid (HK.out.1.alloc o)
        obtain ⟨hca, hru⟩ := cans_take HC.out HCC.out
        obtain ⟨z1, z2⟩ := HZ.out c (List.mem_of_getElem? HCC.out)
        have hll : (Dk.runs (S.changes.take k) S.lasting).length < maxLen := by
          have h1 := length_runs (S.changes.take k) S.lasting
          have h2 := HF.out.old
          have h3 := HF.out.chg
          rw [List.length_take] at h1
          unfold maxLen
          omega
        have HRU := Lib.hid hru
        have HD := fun w' h' => Lib.hid (do_any L.loc sf st c.made (Dk.runs (S.changes.take k) S.lasting) L.bl w' h' (by rw [← HSF.out, ← HST.out]; exact hca) (by rw [← HSF.out]; exact z1) (by rw [← HST.out]; exact z2) hll)
        rw [HPO.out] at HD
        have hct : (⟨sf.data.toList, st.data.toList, c.made⟩ : Chg) = c := by rw [← HSF.out, ← HST.out]
        rw [hct] at HD
        have HP := Lib.hid hp
        clear hca hru z1 z2 hll hct c5 hp
        go_wp2_with fail
        have hp := HP.out
        clear a0 a1 a2 HP
        have b0 := box_new wr #[.string sf, .string st, .pointer po] 133 0
        have b1 := box_new wr #[.string sf, .string st, .pointer po] 133 1
        have b2 := box_new wr #[.string sf, .string st, .pointer po] 133 2
        have c5 := (c5b (.cells #[.string sf, .string st, .pointer po] 133)).out
        have hp5 : p < (wr.alloc (.cells #[.string sf, .string st, .pointer po] 133)).heap.size := by rw [World.size_alloc]; omega
        have hd6 : L.d < (wr.alloc (.cells #[.string sf, .string st, .pointer po] 133)).heap.size := by rw [World.size_alloc]; omega
        have HW : Hid (Holds (wr.alloc (.cells #[.string sf, .string st, .pointer po] 133)) L { S with lasting := Dk.runs (S.changes.take k) S.lasting } ∧ Turns (Own L) w (wr.alloc (.cells #[.string sf, .string st, .pointer po] 133))) := Lib.hid ⟨(HH5 _).out, HK.out.2.alloc _⟩
        rw [← hp] at b0 b1 b2 ⊢
        generalize wr.alloc (.cells #[.string sf, .string st, .pointer po] 133) = w5 at *
        clear c5b HB2 HH5 hd5 HK hp
        go_region_held3 (fun w' => w'.cell? ⟨p, 0, none⟩ = some (.string sf) ∧ w'.cell? ⟨p, 1, none⟩ = some (.string st) ∧ w'.cell? ⟨p, 2, none⟩ = some (.pointer po) ∧ w'.cell? ⟨L.d, 5, none⟩ = some (.map (some L.bl)) ∧ p < w'.heap.size ∧ L.d < w'.heap.size)
          (first | exact ⟨b0, b1, b2, c5, hp5, hd6⟩ | exact four_keep5 (by assumption) hpl hdl ht6)
          (first | (go_at_call 74; refine (HD _ HW.out.1.old.drew).out.mono ?_; rintro e w6 ⟨rfl, ⟨n6, ho6⟩, ht6⟩))
        have HR6 : Hid (Holds w6 L { S with lasting := Dk.runs (S.changes.take (k + 1)) S.lasting } ∧ Turns (Own L) w w6) := by
          rw [HRU.out]
          refine Lib.hid ⟨HW.out.1.drew.setOld ⟨ht6.os, ht6.tape, ht6.output, ht6.size, fun q hq hne => ht6.block q hq (fun e => hne (by rw [e]))⟩ _ ho6 (fun q hq => ?_), HW.out.2.drew.trans ht6 (fun x hx => Or.inl (by rw [hx]; exact Or.inr (Or.inr (Or.inl rfl))))⟩
          rcases Dk.id_run hq with ⟨z, hz, he⟩ | he
          · rw [← he]; exact HW.out.1.inOld z hz
          · exact HW.out.1.inChg c (List.mem_of_getElem? HCC.out) _ he
        clear ht6 ho6 HW HD
        go_wp2_with fail
        go_roundw
        case rel => exact ⟨k + 1, by omega, by go_num, HR6⟩
        case measure => simp [intOf]; omega
      · obtain rfl : k = n := by omega
        have e6 := HK.out.1.cells.2.2.2.2.2.2
        have f6 := HK.out.1.soft 6
        clear hlt
        go_wp2_with fail
        go_end0
        have hh := HK.out.1.setVec (w1 := wr) (.slice none 0 0) [] ⟨rfl, rfl, rfl, Nat.le_refl _, fun _ _ _ => rfl⟩ (World.ownsRow_nil ..) (fun b hb => by simp [Value.ownBlock] at hb) (fun c hc => by simp at hc)
        refine ⟨rfl, { L with vec := .slice none 0 0 }, rfl, hh, HK.out.2.trans (Turns.of_setCell (P := fun q => q = L.d) wr ⟨L.d, 6, none⟩ _ rfl) (fun x hx => Or.inl (Or.inl hx)), fun b hb => Or.inl ?_⟩
        rcases hb with h1 | h1 | h1 | h1 | h1
        · exact Or.inl h1
        · exact Or.inr (Or.inl h1)
        · exact Or.inr (Or.inr (Or.inl h1))
        · simp [Value.ownBlock] at h1
        · exact Or.inr (Or.inr (Or.inr (Or.inr h1)))

set_option maxHeartbeats 2000000 in
set_option maxRecDepth 100000 in
theorem dirSync_any {L : Lay} {S : Disk} (w : World) (h : Holds w L S) (F : Fits S) (hcan : Dk.Cans S.changes S.lasting) (hsz : ∀ c ∈ S.changes, c.src.length ≤ maxLen ∧ c.dst.length ≤ maxLen) :
    Calls Tryz.prog 40 #[.pointer (some ⟨L.d, 0, none⟩)] w fun e w' => e = .returned (errV S.dirSync.1) ∧ Goes L w S.dirSync.2 w' := by
  have HBA := Lib.hid (barred_any w h)
  have HB := Lib.hid (burns_any w h F.fuse)
  have HF := Lib.hid F; clear F
  have HC := Lib.hid hcan; have HZ := Lib.hid hsz; clear hcan hsz
  have HH := Lib.hid h; clear h
  obtain ⟨R, hR⟩ : ∃ R, R = S.dirSync := ⟨_, rfl⟩
  rw [← hR]
  unfold Disk.dirSync at hR
  have HR := Lib.hid hR; clear hR
  go_enter Tryz.func40, Tryz.ntmps40
  go_wp2_with fail
  refine HBA.out.mono ?_
  rintro e w1 ⟨rfl, rfl⟩
  clear HBA
  cases hd : S.down with
  | true =>
    have HE : Hid (R = (7, S)) := by have := HR.out; rw [hd] at this; exact Lib.hid this
    have HV : Hid (barV S = .int .i64 7) := by unfold barV; rw [hd]; exact Lib.hid rfl
    rw [HV.out]
    clear HR HV HB
    go_wp2_with fail
    go_ret
    rw [HE.out]
    exact ⟨rfl, Goes.stay HH.out⟩
  | false =>
    have HV : Hid (barV S = .int .i64 0) := by unfold barV; rw [hd]; exact Lib.hid rfl
    rw [HV.out]
    clear HV
    go_wp2_with fail
    refine HB.out.mono ?_
    rintro e w2 ⟨rfl, hh2, ht2, hz2⟩
    have HH2 := Lib.hid hh2; have HT2 := Lib.hid ht2.box
    clear hh2 ht2 hz2 HB
    cases hb : S.burnt with
    | true =>
      have HE : Hid (R = (7, S.burn)) := by have := HR.out; rw [hd, hb] at this; exact Lib.hid this
      clear HR
      go_wp2_with fail
      go_ret
      rw [HE.out]
      exact ⟨rfl, Goes.same HH2.out HT2.out⟩
    | false =>
      have HE : Hid (R = (0, S.burn.keep S.changes.length)) := by have := HR.out; rw [hd, hb] at this; exact Lib.hid this
      clear HR
      obtain ⟨a, cap, hsh⟩ := row_shape HH2.out.chg
      have c6 := HH2.out.cells.2.2.2.2.2.2
      rw [hsh, (burn_now S).2.2.1] at c6
      obtain ⟨b1, b2, b3, b4, b5, b6, b7⟩ := burn_now S
      have hfu : S.burn.fuse ≤ S.fuse := by unfold Disk.burn; split <;> simp
      have HKE := Lib.hid (keep_any w2 HH2.out ⟨Nat.le_trans hfu HF.out.fuse, by rw [b1]; exact HF.out.now, by rw [b2]; exact HF.out.old, by rw [b3]; exact HF.out.chg, by rw [b7]; exact HF.out.room0, by rw [b7]; exact HF.out.room, by rw [b6]; exact HF.out.least, by rw [b6]; exact HF.out.most, by rw [b4]; exact HF.out.dat⟩
        (by rw [b3, b2]; exact HC.out) (by rw [b3]; exact HZ.out) S.changes.length (by rw [b3]; exact Nat.le_refl _))
      clear b1 b2 b3 b4 b5 b6 b7 hfu hsh
      go_wp2_with fail
      refine HKE.out.mono ?_
      rintro e w3 ⟨rfl, L', hld, hh, ht, ho⟩
      have HG : Hid (Goes L w1 (S.burn.keep S.changes.length) w3) := Lib.hid ⟨L', hld, hh, HT2.out.trans ht (fun _ hx => Or.inl hx), fun b hb => (ho b hb).imp id (fun h => Nat.le_trans HT2.out.size h)⟩
      clear hld hh ht ho HKE
      go_wp2_with fail
      go_ret
      rw [HE.out]
      exact ⟨rfl, HG.out⟩

end Go.Proofs.YtfeconankopjmaaGreatDoor

/- The walks of Delete, Rename, Create over a disk that lies in memory. -/
namespace Go.Proofs.YtfeconankopjmaaGreatDoor
open Go.RowKit Go.Maps
open Dk (Dir Chg Disk File Str)

theorem key_len {w : World} {b n : Nat} {loc : Nat → Nat} {d : Dir} (h : w.ownsMap Tryz.prog 9 ptrElem b n (toD loc d)) {s : Str} {i : Nat} (hl : Dk.look s d = some i) : s.length ≤ maxLen := by
  have := strKeys_le h Tryz.underlying9 s (by rw [toD_keys]; exact List.mem_map.2 ⟨_, Dk.mem_of_look hl, rfl⟩)
  exact this

section
variable {L : Lay} {S : Disk} (w : World)

theorem str_beq {s t : ByteArray} (h : s ≠ t) : (s.toList == t.toList) = false := by
  rw [beq_eq_false_iff_ne]
  exact fun e => h (str_eq e)
theorem list_of {s t : ByteArray} (h : s.data.toList = t.data.toList) : s = t := str_eq (by rw [ByteArray.toList_eq, ByteArray.toList_eq]; exact h)

set_option maxHeartbeats 4000000 in
set_option maxRecDepth 100000 in
theorem rename_any (h : Holds w L S) (F : Fits S) (hnm : ∀ p ∈ S.now, p.1 ≠ []) (s t : ByteArray) (hs : s.size ≤ 281474976710656) (ht : t.size ≤ 281474976710656) : Calls Tryz.prog 102 #[.pointer (some ⟨L.d, 0, none⟩), .string s, .string t] w fun e w' => e = .returned (errV (S.rename s.data.toList t.data.toList).1) ∧ Goes L w (S.rename s.data.toList t.data.toList).2 w' := by
  have HBA := Lib.hid (barred_any w h)
  have HN := Lib.hid (isName_any t w (by omega))
  have HFI := Lib.hid (find_any w h s (by unfold maxLen; omega))
  have HB := Lib.hid (burns_any w h F.fuse)
  have HLK := Lib.hid (look_run h.now t (by unfold maxLen; omega))
  have c4 := h.cells.2.2.2.2.1
  have HF := Lib.hid F; clear F
  have HH := Lib.hid h; clear h
  have HS := Lib.hid hs; clear hs
  have HT := Lib.hid ht; clear ht
  have HNM := Lib.hid hnm; clear hnm
  obtain ⟨R, hR⟩ : ∃ R, R = S.rename s.data.toList t.data.toList := ⟨_, rfl⟩
  rw [← hR]
  unfold Disk.rename at hR
  have HR := Lib.hid hR; clear hR
  go_enter Tryz.func102, Tryz.ntmps102
  go_wp2_with fail
  refine HBA.out.mono ?_
  rintro e w1 ⟨rfl, rfl⟩
  clear HBA
  cases hd : S.down with
  | true =>
    have HE : Hid (R = (7, S)) := by have := HR.out; rw [hd] at this; exact Lib.hid this
    have HV : Hid (barV S = .int .i64 7) := by unfold barV; rw [hd]; exact Lib.hid rfl
    rw [HV.out]
    clear HR HV HLK HFI HN HB
    go_wp2_with fail
    go_ret
    rw [HE.out]
    exact ⟨rfl, Goes.stay HH.out⟩
  | false =>
    have HV : Hid (barV S = .int .i64 0) := by unfold barV; rw [hd]; exact Lib.hid rfl
    rw [HV.out]
    clear HV
    go_wp2_with fail
    refine HN.out.mono ?_
    rintro e w2 ⟨rfl, rfl⟩
    clear HN
    cases hn : Dk.isName t.data.toList with
    | false =>
      have HE : Hid (R = (1, S)) := by have := HR.out; rw [hd, hn] at this; exact Lib.hid this
      clear HR HLK HFI HB
      go_wp2_with fail
      go_ret
      rw [HE.out]
      exact ⟨rfl, Goes.stay HH.out⟩
    | true =>
      go_wp2_with fail
      refine HFI.out.mono ?_
      rintro e w3 ⟨rfl, rfl⟩
      clear HFI
      unfold findV
      rw [hd, if_neg (by simp)]
      cases hl : Dk.look s.data.toList S.now with
      | none =>
        have HE : Hid (R = (4, S)) := by have := HR.out; rw [hd, hn, hl] at this; exact Lib.hid this
        dsimp only
        clear HR HLK HB
        go_wp2_with fail
        go_ret
        rw [HE.out]
        exact ⟨rfl, Goes.stay HH.out⟩
      | some i =>
        have hi := HH.out.inNow _ (Dk.mem_of_look hl)
        dsimp only at hi ⊢
        by_cases hst : s = t
        · subst hst
          have HE1 : Hid (R = if S.burnt then (7, S.burn) else (0, S.burn)) := by have := HR.out; rw [hd, hn, hl] at this; exact Lib.hid (this.trans (if_pos rfl))
          clear HR HLK
          go_wp2_with fail
          refine HB.out.mono ?_
          rintro e w4 ⟨rfl, hh2, ht2, _⟩
          have HG : Hid (Goes L w3 S.burn w4) := Lib.hid (Goes.same hh2 ht2.box)
          clear hh2 ht2 HB
          cases hb : S.burnt with
          | true =>
            have HE : Hid (R = (7, S.burn)) := by have := HE1.out; rw [hb] at this; exact Lib.hid this
            clear HE1
            go_wp2_with fail
            go_ret
            rw [HE.out]
            exact ⟨rfl, HG.out⟩
          | false =>
            have HE : Hid (R = (0, S.burn)) := by have := HE1.out; rw [hb] at this; exact Lib.hid this
            clear HE1
            go_wp2_with fail
            go_ret
            rw [HE.out]
            exact ⟨rfl, HG.out⟩
        · have hbq := str_beq hst
          have hne : s.data.toList ≠ t.data.toList := fun e => hst (list_of e)
          have HE : Hid (R = S.change ⟨s.data.toList, t.data.toList, none⟩ (Dk.look t.data.toList S.now)) := by have := HR.out; rw [hd, hn, hl] at this; exact Lib.hid (this.trans (if_neg hne))
          have hsn : s.data.toList ≠ [] := HNM.out _ (Dk.mem_of_look hl)
          have HC := Lib.hid (change_any w3 HH.out HF.out s t none (Dk.look t.data.toList S.now) ⟨fun _ => ⟨i, by unfold Chg.file; rw [if_neg hsn]; exact hl⟩, fun e => absurd e hsn⟩ (fun _ e => by cases e)
            (fun j e => HH.out.inNow _ (Dk.mem_of_look e)) HS.out HT.out)
          have hlk := HLK.out
          generalize hG : fileV L.loc (Dk.look t.data.toList S.now) = g at hlk HC
          clear HR HLK HB hne hsn hst hG hi
          go_wp2_with fail
          refine HC.out.mono ?_
          rintro e w4 ⟨rfl, hg⟩
          have HG := Lib.hid hg; clear hg HC
          go_wp2_with fail
          go_ret
          rw [HE.out]
          exact ⟨rfl, HG.out⟩

theorem Holds.ids {w : World} (h : Holds w L S) : (∀ p ∈ S.now, p.2 < S.next) ∧ (∀ p ∈ S.lasting, p.2 < S.next) ∧ ∀ c ∈ S.changes, ∀ i, c.made = some i → i < S.next :=
  ⟨fun p hp => h.lt _ (h.inNow p hp), fun p hp => h.lt _ (h.inOld p hp), fun c hc i hi => h.lt _ (h.inChg c hc i hi)⟩

/-- Where a disk lies that has one file more. -/
def Lay.more (L : Lay) (n b : Nat) : Lay := { L with loc := fun k => if k = n then b else L.loc k, dat := fun k => if k = n then .slice none 0 0 else L.dat k, live := fun k => k = n ∨ L.live k }
theorem chgCells_congr {loc loc' : Nat → Nat} {c : Chg} (h : ∀ i, c.made = some i → loc i = loc' i) : chgCells loc c = chgCells loc' c := by
  unfold chgCells
  cases hm : c.made with
  | none => rfl
  | some i => unfold fileV; dsimp only; rw [h i hm]
theorem flat_congr {loc loc' : Nat → Nat} {cs : List Chg} (h : ∀ c ∈ cs, ∀ i, c.made = some i → loc i = loc' i) : cs.flatMap (chgCells loc) = cs.flatMap (chgCells loc') := by
  induction cs with
  | nil => rfl
  | cons c r ih =>
    rw [List.flatMap_cons, List.flatMap_cons, chgCells_congr (h c (List.mem_cons_self ..)), ih (fun x hx => h x (List.mem_cons_of_mem _ hx))]
/-- A new file's block. -/
theorem Holds.moreFile {w : World} (h : Holds w L S) : Holds (w.alloc (.cells #[.slice none 0 0, .int .i64 0] 130)) (L.more S.next w.heap.size) S.with := by
  obtain ⟨i1, i2, i3⟩ := h.ids
  have hl : ∀ i, i < S.next → (L.more S.next w.heap.size).loc i = L.loc i := fun i hi => by unfold Lay.more; dsimp only; rw [if_neg (by omega)]
  have ha := h.alloc (.cells #[.slice none 0 0, .int .i64 0] 130)
  have hbelow : ∀ i, L.live i → L.loc i < w.heap.size := fun i hi => heap_lt (h.file i hi).box
  refine ⟨ha.box, ?_, ?_, h.two, ?_, fun i hi => ?_, fun i j hi hj hij => ?_, fun p hp => Or.inr (h.inNow p hp), fun p hp => Or.inr (h.inOld p hp), fun c hc i hi => Or.inr (h.inChg c hc i hi), fun i hi => ?_⟩
  · have e : toD (L.more S.next w.heap.size).loc S.with.now = toD L.loc S.now := toD_congr fun p hp => hl _ (i1 p hp)
    rw [e]; exact ha.now
  · have e : toD (L.more S.next w.heap.size).loc S.with.lasting = toD L.loc S.lasting := toD_congr fun p hp => hl _ (i2 p hp)
    rw [e]; exact ha.old
  · have e : S.with.changes.flatMap (chgCells (L.more S.next w.heap.size).loc) = S.changes.flatMap (chgCells L.loc) := flat_congr fun c hc i hi => hl _ (i3 c hc i hi)
    rw [e]; exact ha.chg
  · unfold Disk.with
    dsimp only
    by_cases e : i = S.next
    · subst e
      unfold Lay.more
      dsimp only
      rw [if_pos rfl, if_pos rfl, Dk.upd_same]
      exact ⟨heap_alloc_new w _, World.ownsRow_nil .., Nat.le_refl _⟩
    · have hi' : L.live i := by rcases hi with h1 | h1; exact absurd h1 e; exact h1
      unfold Lay.more
      dsimp only
      rw [if_neg e, if_neg e, Dk.upd_other e]
      exact ha.file i hi'
  · unfold Lay.more
    dsimp only
    by_cases e : i = S.next
    · have hj' : L.live j := by rcases hj with h1 | h1; exact absurd (e.trans h1.symm) hij; exact h1
      have hj2 : ¬ j = S.next := fun e2 => hij (e.trans e2.symm)
      rw [if_pos e, if_neg hj2, if_pos e, if_neg hj2]
      refine ⟨?_, fun b hb => by simp [Value.ownBlock] at hb⟩
      have := hbelow j hj'
      omega
    · have hi' : L.live i := by rcases hi with h1 | h1; exact absurd h1 e; exact h1
      rw [if_neg e, if_neg e]
      by_cases e2 : j = S.next
      · rw [if_pos e2, if_pos e2]
        refine ⟨?_, fun b _ hb => by simp [Value.ownBlock] at hb⟩
        have := hbelow i hi'
        omega
      · have hj' : L.live j := by rcases hj with h1 | h1; exact absurd h1 e2; exact h1
        rw [if_neg e2, if_neg e2]
        exact h.apart i j hi' hj' hij
  · unfold Disk.with
    dsimp only
    rcases hi with h1 | h1
    · omega
    · have := h.lt i h1; omega
/-- .. forgotten again. -/
theorem Holds.lessFile {w : World} {L' : Lay} (h : Holds w L' S.with) (i1 : ∀ p ∈ S.now, p.2 < S.next) (i2 : ∀ p ∈ S.lasting, p.2 < S.next) (i3 : ∀ c ∈ S.changes, ∀ i, c.made = some i → i < S.next) :
    Holds w { L' with live := fun i => L'.live i ∧ i < S.next } S := by
  refine ⟨h.box, h.now, h.old, h.two, h.chg, fun i hi => ?_, fun i j hi hj hij => h.apart i j hi.1 hj.1 hij, fun p hp => ⟨h.inNow p hp, i1 p hp⟩, fun p hp => ⟨h.inOld p hp, i2 p hp⟩, fun c hc i hi => ⟨h.inChg c hc i hi, i3 c hc i hi⟩, fun i hi => hi.2⟩
  have := h.file i hi.1
  unfold Disk.with at this
  dsimp only at this
  rw [Dk.upd_other (by have := hi.2; omega)] at this
  exact this
theorem own_less {L' : Lay} {n b : Nat} (h : Own { L' with live := fun i => L'.live i ∧ i < n } b) : Own L' b := by
  rcases h with h1 | h1 | h1 | h1 | ⟨k, hk, h1⟩
  · exact Or.inl h1
  · exact Or.inr (Or.inl h1)
  · exact Or.inr (Or.inr (Or.inl h1))
  · exact Or.inr (Or.inr (Or.inr (Or.inl h1)))
  · exact Or.inr (Or.inr (Or.inr (Or.inr ⟨k, hk.1, h1⟩)))
theorem own_more {n m b : Nat} (h : Own (L.more n m) b) : Own L b ∨ b = m := by
  rcases h with h1 | h1 | h1 | h1 | ⟨k, hk, h1⟩
  · exact Or.inl (Or.inl h1)
  · exact Or.inl (Or.inr (Or.inl h1))
  · exact Or.inl (Or.inr (Or.inr (Or.inl h1)))
  · exact Or.inl (Or.inr (Or.inr (Or.inr (Or.inl h1))))
  · unfold Lay.more at h1
    dsimp only at h1
    by_cases e : k = n
    · rw [if_pos e, if_pos e] at h1
      rcases h1 with h1 | h1
      · exact Or.inr h1
      · simp [Value.ownBlock] at h1
    · rw [if_neg e, if_neg e] at h1
      rcases hk with h2 | h2
      · exact absurd h2 e
      · exact Or.inl (Or.inr (Or.inr (Or.inr (Or.inr ⟨k, h2, h1⟩))))
theorem burn_with (S : Disk) : S.with.burn = S.burn.with ∧ S.with.burnt = S.burnt := by
  unfold Disk.burn Disk.with Disk.burnt
  dsimp only
  refine ⟨?_, rfl⟩
  split <;> rfl

set_option maxHeartbeats 4000000 in
set_option maxRecDepth 100000 in
theorem create_any (h : Holds w L S) (F : Fits S) (s : ByteArray) (hs : s.size ≤ 281474976710656) : Calls Tryz.prog 38 #[.pointer (some ⟨L.d, 0, none⟩), .string s] w fun e w' => e = .returned (errV (S.create s.data.toList).1) ∧ Goes L w (S.create s.data.toList).2 w' := by
  have HBA := Lib.hid (barred_any w h)
  have HN := Lib.hid (isName_any s w (by omega))
  have hlk := look_run h.now s (by unfold maxLen; omega)
  have c4 := h.cells.2.2.2.2.1
  have HF := Lib.hid F; clear F
  have HH := Lib.hid h; clear h
  have HS := Lib.hid hs; clear hs
  obtain ⟨R, hR⟩ : ∃ R, R = S.create s.data.toList := ⟨_, rfl⟩
  rw [← hR]
  unfold Disk.create at hR
  have HR := Lib.hid hR; clear hR
  go_enter Tryz.func38, Tryz.ntmps38
  go_wp2_with fail
  refine HBA.out.mono ?_
  rintro e w1 ⟨rfl, rfl⟩
  clear HBA
  cases hd : S.down with
  | true =>
    have HE : Hid (R = (7, S)) := by have := HR.out; rw [hd] at this; exact Lib.hid this
    have HV : Hid (barV S = .int .i64 7) := by unfold barV; rw [hd]; exact Lib.hid rfl
    rw [HV.out]
    clear HR HV hlk HN
    go_wp2_with fail
    go_ret
    rw [HE.out]
    exact ⟨rfl, Goes.stay HH.out⟩
  | false =>
    have HV : Hid (barV S = .int .i64 0) := by unfold barV; rw [hd]; exact Lib.hid rfl
    rw [HV.out]
    clear HV
    go_wp2_with fail
    refine HN.out.mono ?_
    rintro e w2 ⟨rfl, rfl⟩
    clear HN
    cases hn : Dk.isName s.data.toList with
    | false =>
      have HE : Hid (R = (1, S)) := by have := HR.out; rw [hd, hn] at this; exact Lib.hid this
      clear HR hlk
      go_wp2_with fail
      go_ret
      rw [HE.out]
      exact ⟨rfl, Goes.stay HH.out⟩
    | true =>
      cases hl : Dk.look s.data.toList S.now with
      | some i =>
        have HE : Hid (R = (5, S)) := by have := HR.out; rw [hd, hn, hl] at this; exact Lib.hid this
        rw [hl] at hlk
        unfold fileV at hlk
        clear HR
        go_wp2_with fail
        go_ret
        rw [HE.out]
        exact ⟨rfl, Goes.stay HH.out⟩
      | none =>
        have HE : Hid (R = if S.burnt then (7, S.burn) else (0, S.burn.with.did ⟨[], s.data.toList, some S.next⟩ none)) := by have := HR.out; rw [hd, hn, hl] at this; exact Lib.hid this
        rw [hl] at hlk
        unfold fileV at hlk
        have hsn : s.data.toList ≠ [] := fun e => by rw [e] at hn; cases hn
        have hloc : (L.more S.next w2.heap.size).loc S.next = w2.heap.size := by unfold Lay.more; exact if_pos rfl
        have HC := Lib.hid (change_any _ HH.out.moreFile (show Fits S.with from ⟨HF.out.fuse, HF.out.now, HF.out.old, HF.out.chg, HF.out.room0, HF.out.room, HF.out.least, HF.out.most, fun i => by
            unfold Disk.with Dk.upd
            dsimp only
            split
            · simp
            · exact HF.out.dat i⟩) ByteArray.empty s (some S.next) none ⟨fun _ => ⟨S.next, rfl⟩, fun _ => hsn⟩ (fun j e => by cases e; exact Or.inl rfl) (fun _ e => by cases e) (by decide) HS.out)
        rw [show fileV (L.more S.next w2.heap.size).loc (some S.next) = .pointer (some ⟨w2.heap.size, 0, none⟩) by unfold fileV; dsimp only; rw [hloc]] at HC
        generalize hQ : S.with.change ⟨ByteArray.empty.data.toList, s.data.toList, some S.next⟩ none = Q at HC
        have HQ := Lib.hid hQ
        clear HR hsn hloc hQ
        go_wp2_with fail
        refine HC.out.mono ?_
        rintro e w4 ⟨rfl, hg⟩
        have HG := Lib.hid hg; clear hg HC
        go_wp2_with fail
        go_ret
        obtain ⟨L', hld, hh, ht, ho⟩ := HG.out
        obtain ⟨i1, i2, i3⟩ := HH.out.ids
        have hT : Turns (Own L) w2 w4 := (Turns.of_below (P := Own L) ((Below.refl _ w2).alloc (Nat.le_refl _) _)).trans ht (fun x hx => (own_more hx).imp id (fun e => by omega))
        have hO : ∀ b, Own L' b → Own L b ∨ w2.heap.size ≤ b := fun b hb => by
          rcases ho b hb with h1 | h1
          · exact (own_more h1).imp id (fun e => by omega)
          · right; simp at h1; omega
        have e1 : Q = if S.burnt then (7, S.burn.with) else (0, S.burn.with.did ⟨[], s.data.toList, some S.next⟩ none) := by
          rw [← HQ.out]
          unfold Disk.change
          rw [(burn_with S).1, (burn_with S).2]
          rfl
        rw [e1] at hh ⊢
        rw [HE.out]
        cases hb : S.burnt with
        | true =>
          rw [hb] at hh
          have hh2 : Holds w4 L' S.burn.with := hh
          obtain ⟨b1, b2, b3, _, b5, _, _⟩ := burn_now S
          exact ⟨rfl, { L' with live := fun i => L'.live i ∧ i < S.burn.next }, hld, hh2.lessFile (by rw [b1, b5]; exact i1) (by rw [b2, b5]; exact i2) (by rw [b3, b5]; exact i3), hT, fun b hb => hO b (own_less hb)⟩
        | false =>
          rw [hb] at hh
          exact ⟨rfl, L', hld, hh, hT, hO⟩

end
end Go.Proofs.YtfeconankopjmaaGreatDoor

/- Walks of methods that only some seats' translations hold: Down, Delete. -/
namespace Go.Proofs.YtfeconankopjmaaGreatDoor
open Go.RowKit Go.Maps
open Dk (Dir Chg Disk File Str)

section
variable {L : Lay} {S : Disk} (w : World)

set_option maxHeartbeats 1000000 in
set_option maxRecDepth 100000 in
theorem down_any (h : Holds w L S) : Calls Tryz.prog 65 #[.pointer (some ⟨L.d, 0, none⟩)] w fun e w' => e = .returned (.bool S.down) ∧ w' = w := by
  obtain ⟨c0, c1, c2, c3, c4, c5, c6⟩ := h.cells
  have HM := Lib.hid (made_any w h)
  clear h
  go_enter Tryz.func65, Tryz.ntmps65
  go_wp2_with fail
  refine HM.out.mono ?_
  rintro e w1 ⟨rfl, rfl⟩
  go_wp2_with fail
  go_ret
  exact ⟨rfl, rfl⟩

set_option maxHeartbeats 2000000 in
set_option maxRecDepth 100000 in
theorem delete_any (h : Holds w L S) (F : Fits S) (hnm : ∀ p ∈ S.now, p.1 ≠ []) (s : ByteArray) (hs : s.size ≤ 281474976710656) : Calls Tryz.prog 51 #[.pointer (some ⟨L.d, 0, none⟩), .string s] w fun e w' => e = .returned (errV (S.delete s.data.toList).1) ∧ Goes L w (S.delete s.data.toList).2 w' := by
  have HFI := Lib.hid (find_any w h s (by unfold maxLen; omega))
  have HF := Lib.hid F; clear F
  have HH := Lib.hid h; clear h
  have HS := Lib.hid hs; clear hs
  have HNM := Lib.hid hnm; clear hnm
  obtain ⟨R, hR⟩ : ∃ R, R = S.delete s.data.toList := ⟨_, rfl⟩
  rw [← hR]
  unfold Disk.delete at hR
  have HR := Lib.hid hR; clear hR
  go_enter Tryz.func51, Tryz.ntmps51
  go_wp2_with fail
  refine HFI.out.mono ?_
  rintro e w1 ⟨rfl, rfl⟩
  clear HFI
  unfold findV
  cases hd : S.down with
  | true =>
    have HE : Hid (R = (7, S)) := by have := HR.out; rw [hd] at this; exact Lib.hid this
    rw [if_pos rfl]
    clear HR
    go_wp2_with fail
    go_ret
    rw [HE.out]
    exact ⟨rfl, Goes.stay HH.out⟩
  | false =>
    rw [if_neg (by simp)]
    cases hl : Dk.look s.data.toList S.now with
    | none =>
      have HE : Hid (R = (4, S)) := by have := HR.out; rw [hd, hl] at this; exact Lib.hid this
      dsimp only
      clear HR
      go_wp2_with fail
      go_ret
      rw [HE.out]
      exact ⟨rfl, Goes.stay HH.out⟩
    | some i =>
      have hi := HH.out.inNow _ (Dk.mem_of_look hl)
      have HE : Hid (R = S.change ⟨s.data.toList, [], none⟩ (some i)) := by have := HR.out; rw [hd, hl] at this; exact Lib.hid this
      clear HR
      dsimp only at hi ⊢
      have hne : s.data.toList ≠ [] := HNM.out _ (Dk.mem_of_look hl)
      have HC := Lib.hid (change_any w1 HH.out HF.out s ByteArray.empty none (some i) ⟨fun e => absurd rfl e, fun e => absurd e hne⟩ (fun _ e => by cases e) (fun j e => by cases e; exact hi) HS.out (by decide))
      clear hne hi hl
      go_wp2_with fail
      refine HC.out.mono ?_
      rintro e w2 ⟨rfl, hg⟩
      have HG := Lib.hid hg; clear hg
      go_wp2_with fail
      go_ret
      rw [HE.out]
      exact ⟨rfl, HG.out⟩

end
end Go.Proofs.YtfeconankopjmaaGreatDoor
