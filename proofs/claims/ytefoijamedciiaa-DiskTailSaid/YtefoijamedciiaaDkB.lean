/- The walk of change.do in a directory that lies in memory. -/
import Derived.Test.YtefoijamedciiaaDkA
import Derived.Maps.OwnSet
namespace Go.Proofs.Ytefoijamedciiaa
open Go.RowKit Go.Maps
open Dk (Dir Chg Disk File Str)

def chgV (loc : Nat → Nat) (c : Chg) : Value := .agg (chgCells loc c).toArray

set_option maxHeartbeats 2000000 in
set_option maxRecDepth 100000 in
theorem do_any (loc : Nat → Nat) (sf st : ByteArray) (mk : Option Nat) (d : Dir) (b : Nat) (w : World) (hown : w.ownsMap Try.prog 9 ptrElem b d.length (toD loc d))
    (hcan : (⟨sf.data.toList, st.data.toList, mk⟩ : Chg).Can d) (h1 : sf.size ≤ maxLen) (h2 : st.size ≤ maxLen) (hn : d.length < maxLen) :
    Calls Try.prog 32 #[.agg #[.string sf, .string st, fileV loc mk], .map (some b)] w fun e w' => e = .returned (.tuple #[]) ∧ (∃ n, w'.ownsMap Try.prog 9 ptrElem b n (toD loc ((⟨sf.data.toList, st.data.toList, mk⟩ : Chg).run d))) ∧ Turns (fun k => k = b) w w' := by
  have hbl := hown.lt
  have HO := Lib.hid hown; clear hown
  by_cases hf : sf.size = 0
  · obtain rfl := empty_of_size hf
    obtain ⟨hc1, hc2⟩ := hcan
    have hst : st.data.toList ≠ [] := hc2 rfl
    obtain ⟨i, hi⟩ := hc1 hst
    have hmk : mk = some i := hi
    subst hmk
    have hst0 : st.size ≠ 0 := fun e => hst (by rw [empty_of_size e]; rfl)
    obtain ⟨hne, hne2⟩ := notEmpty hst0
    have HS := Lib.hid hst
    clear hc1 hc2 hi hst hst0
    unfold fileV
    have hkey := Lib.hid (key_string st h2)
    have HO1 : ∀ o, Hid ((w.alloc o).ownsMap Try.prog 9 ptrElem b d.length (toD loc d)) := fun o => Lib.hid (HO.out.alloc o)
    go_enter Try.func32, Try.ntmps32
    go_wp2_with (at_mapUpdate; refine wpList_mapUpdate_own _ rfl _ _ _ 54 rfl 9 58 law Try.underlying54 _ b d.length _ rfl (HO1 _).out hn _ _ _ rfl rfl hkey.out (.lit (.int .i64 (loc i))) [] rfl ?_)
    intro w2 hown2 hg2
    rw [toD_put] at hown2
    have HF : Hid _ := Lib.hid (And.intro hown2 hg2); clear hown2 hg2
    go_wp2_with fail
    go_end0
    obtain ⟨hown2, hg2⟩ := HF.out
    have e : (⟨ByteArray.empty.data.toList, st.data.toList, some i⟩ : Chg).run d = Dk.put st.data.toList i d := by
      unfold Chg.run Chg.file
      simp only
      rw [if_neg HS.out]
      rfl
    exact ⟨rfl, ⟨d.length + 1, by rw [e]; exact hown2⟩, (Turns.of_below (P := fun k => k = b) ((Below.refl _ w).alloc (Nat.le_refl _) _)).trans (Turns.of_grown (P := fun k => k = b) hg2 (fun k e => (Option.some.inj e).symm)) (fun _ hx => Or.inl hx)⟩
  · obtain ⟨hc1, hc2⟩ := hcan
    obtain ⟨hnf, hnf2⟩ := notEmpty hf
    have hsf : sf.data.toList ≠ [] := fun e => hf (by rw [Lib.size_eq, e]; rfl)
    have hlr : ∀ o, (Instr.lookup 54 (.map (some b)) (.string sf) false).run Try.prog (w.alloc o) = .ok (fileV loc (Dk.look sf.data.toList d)) (w.alloc o) := fun o => look_run (HO.out.alloc o) sf h1
    have hkf := Lib.hid (key_string sf h1)
    have hkt := Lib.hid (key_string st h2)
    have HO1 : ∀ o, Hid ((w.alloc o).ownsMap Try.prog 9 ptrElem b d.length (toD loc d)) := fun o => Lib.hid (HO.out.alloc o)
    have hne : w.heap.size ≠ b := by omega
    have hB0 : ∀ o, Hid (Turns (fun k => k = b) w (w.alloc o)) := fun o => Lib.hid (Turns.of_below (P := fun k => k = b) ((Below.refl _ w).alloc (Nat.le_refl _) _))
    have HC := Lib.hid hc1
    have HSF := Lib.hid hsf
    clear hc1 hc2 hf hsf h1 h2
    by_cases ht : st.size = 0
    · obtain rfl := empty_of_size ht
      generalize hG : fileV loc (Dk.look sf.data.toList d) = g at hlr
      clear hG
      go_enter Try.func32, Try.ntmps32
      go_wp2_with (at_delete; refine wpList_delete_own _ rfl _ _ 54 9 rfl 58 law Try.underlying54 ptrElem b d.length _ rfl (HO1 _).out _ _ rfl hkf.out ?_)
      intro w2 hown2 hturn
      rw [toD_del] at hown2
      have hk2 := hturn.grown.block w.heap.size (by simp) (by simp [hne])
      have c1 := cell_kept (a := ⟨w.heap.size, 1, none⟩) (v := .string ByteArray.empty) (by rw [World.cell?_alloc_mark]; rfl) hk2
      have HE : Hid (w2.ownsMap Try.prog 9 ptrElem b d.length (toD loc (Dk.del sf.data.toList d)) ∧ Turns (fun k => k = b) w w2) := Lib.hid ⟨hown2, (hB0 _).out.trans (Turns.of_grown (P := fun k => k = b) hturn.grown (fun k e => (Option.some.inj e).symm)) (fun _ hx => Or.inl hx)⟩
      clear hown2 hturn hk2
      go_wp2_with fail
      go_end0
      refine ⟨rfl, ⟨d.length, ?_⟩, HE.out.2⟩
      have e : (⟨sf.data.toList, ByteArray.empty.data.toList, mk⟩ : Chg).run d = Dk.del sf.data.toList d := by
        unfold Chg.run
        simp only
        rw [if_neg HSF.out]
        rfl
      rw [e]
      exact HE.out.1
    · obtain ⟨hnt, hnt2⟩ := notEmpty ht
      have hst : st.data.toList ≠ [] := fun e => ht (by rw [Lib.size_eq, e]; rfl)
      obtain ⟨i, hi⟩ := HC.out hst
      have hi2 : Dk.look sf.data.toList d = some i := by
        unfold Chg.file at hi
        simp only at hi
        rw [if_neg HSF.out] at hi
        exact hi
      rw [hi2] at hlr
      have HR : Hid ((⟨sf.data.toList, st.data.toList, mk⟩ : Chg).run d = Dk.put st.data.toList i (Dk.del sf.data.toList d)) := by
        unfold Chg.run
        simp only
        rw [if_neg HSF.out, if_neg hst, hi]
        exact Lib.hid rfl
      unfold fileV at hlr
      clear hi hi2 hst ht HC
      rw [HR.out]
      go_enter Try.func32, Try.ntmps32
      go_wp2_with (at_delete; refine wpList_delete_own _ rfl _ _ 54 9 rfl 58 law Try.underlying54 ptrElem b d.length _ rfl (HO1 _).out _ _ rfl hkf.out ?_)
      intro w2 hown2 hturn
      rw [toD_del] at hown2
      have hk2 := hturn.grown.block w.heap.size (by simp) (by simp [hne])
      have c1 := cell_kept (a := ⟨w.heap.size, 1, none⟩) (v := .string st) (by rw [World.cell?_alloc_mark]; rfl) hk2
      have HE : Hid (w2.ownsMap Try.prog 9 ptrElem b d.length (toD loc (Dk.del sf.data.toList d)) ∧ Turns (fun k => k = b) w w2) := Lib.hid ⟨hown2, (hB0 _).out.trans (Turns.of_grown (P := fun k => k = b) hturn.grown (fun k e => (Option.some.inj e).symm)) (fun _ hx => Or.inl hx)⟩
      clear hown2 hturn hk2
      go_wp2_with (at_mapUpdate; refine wpList_mapUpdate_own _ rfl _ _ _ 54 rfl 9 58 law Try.underlying54 _ b d.length _ rfl HE.out.1 hn _ _ _ rfl rfl hkt.out (.lit (.int .i64 (loc i))) [] rfl ?_)
      intro w3 hown3 hg3
      rw [toD_put] at hown3
      have HF : Hid _ := Lib.hid (And.intro hown3 hg3); clear hown3 hg3
      go_wp2_with fail
      go_end0
      exact ⟨rfl, ⟨_, HF.out.1⟩, HE.out.2.trans (Turns.of_grown (P := fun k => k = b) HF.out.2 (fun k e => (Option.some.inj e).symm)) (fun _ hx => Or.inl hx)⟩

end Go.Proofs.Ytefoijamedciiaa
