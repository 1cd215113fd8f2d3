/- The walk of BatchOnly. -/
import Derived.Test.YtohfjibhfbcanaaBtCmp
import Derived.Deep.RegionHeld3
import Derived.Laws.OwnMore
namespace Go.Proofs.Ytohfjibhfbcanaa
open Go.RowKit
set_option linter.unusedVariables false
set_option linter.unusedSimpArgs false

set_option maxHeartbeats 4000000 in
theorem only_small (S : ByteArray) (w : World) (hs : S.size ≤ 12000) :
    Calls Try.prog 7 #[.string S] w (Gives (.bool true) w) := by
  have hd : ∀ W, Calls Try.prog 12 #[.string S] W (DecRead (Bt.decl S.data.toList) W) := fun W => decode_any S W (by omega)
  have hsi : ¬ (12000 : Int) < S.size := by omega
  cases hdc : Bt.decl S.data.toList with
  | none =>
    rw [hdc] at hd
    have HD := Lib.hid hd
    clear hd hdc
    go_enter Try.func7, Try.ntmps7
    go_wp2_with fail
    refine (HD.out _).mono ?_
    rintro e w1 ⟨hb1, hcase⟩
    rcases hcase with ⟨_, rfl⟩ | ⟨seq', os, a4, c4, h, _, _⟩
    · have HB1 := Lib.hid hb1
      unfold batV
      clear hb1
      go_wp2_with fail
      refine (awake_any _).mono ?_
      rintro e w2 ⟨rfl, hb2⟩
      have HB2 := Lib.hid (Below.next (Below.next_alloc HB1.out _) hb2)
      clear hb2
      go_wp2_with fail
      go_ret
      exact ⟨rfl, HB2.out⟩
    · exact absurd h (by simp)
  | some x =>
    obtain ⟨seq, ops⟩ := x
    rw [hdc] at hd
    have HD := Lib.hid hd
    obtain ⟨hen, hck, hseq⟩ := Bt.encl_decl hdc
    obtain ⟨h16, hob, _, _, hlast⟩ := Bt.chk_ok hck
    clear hd hdc
    go_enter Try.func7, Try.ntmps7
    go_wp2_with fail
    refine (HD.out _).mono ?_
    rintro e w1 ⟨hb1, hcase⟩
    rcases hcase with ⟨h, _⟩ | ⟨seq', os, a1, c1, h, rfl, hown⟩
    · exact absurd h (by simp)
    · obtain ⟨rfl, rfl⟩ : seq = seq' ∧ ops = os := by simpa using h
      have HB1 := Lib.hid hb1
      have HO := Lib.hid hown.sees
      have hw1 : w.heap.size ≤ w1.heap.size := hb1.size
      unfold batV
      clear hb1 hown h
      obtain ⟨len, hlen⟩ : ∃ len, ops.length = len := ⟨_, rfl⟩
      rw [hlen] at HO ⊢
      have hl1 : 1 ≤ len := by omega
      have hl16 : len ≤ 16 := by omega
      have HEN : Hid (∀ W, Below w1.heap.size w1 W → Calls Try.prog 14 #[.agg #[.int .u64 seq, .slice a1 len c1]] W fun e w' => (∃ v, e = .returned v ∧ OwnsE w' W.heap.size v (ents seq ops len)) ∧ Below W.heap.size W w') := Lib.hid (fun W hb =>
        entries_any seq a1 len c1 ops W (HO.out.below hb) hseq (by omega) (fun o ho => by
          have h := (hob o ho).1
          simp only [Bt.longOb, Bool.or_eq_false_iff, decide_eq_false_iff_not] at h
          omega))
      have HEC : Hid (∀ W, Below w1.heap.size w1 W → Calls Try.prog 9 #[.agg #[.int .u64 seq, .slice a1 len c1]] W (fun x W' => x = .returned (.tuple #[.string S, .int .i64 0]) ∧ Below W.heap.size W W')) := Lib.hid (fun W hb => by
        have h := encode_yes seq a1 len c1 ops W (HO.out.below hb) hseq hck
        unfold Told at h
        rw [mk_of hen.symm] at h
        exact h)
      have HCK : Hid (∀ W, Below w1.heap.size w1 W → Calls Try.prog 10 #[.agg #[.int .u64 seq, .slice a1 len c1]] W (Gives (.int .i64 0) W)) := Lib.hid (fun W hb => by
        have h := check_any seq a1 len c1 ops W (HO.out.below hb) hseq
        rw [hck] at h
        exact h)
      obtain ⟨L, hL, HLA⟩ : ∃ L : Nat, (seq : Int) ≤ (L : Int) ∧ Hid (∀ W, Calls Try.prog 13 #[.agg #[.int .u64 seq, .slice a1 len c1]] W (Gives (.int .u64 L) W)) := by
        refine ⟨lastN seq len, ?_, Lib.hid (fun W => last_any seq a1 len c1 W hseq (by omega))⟩
        unfold lastN
        rw [if_neg (by omega)]
        omega
      have HB1a : Hid (∀ o, Below w.heap.size w (w1.alloc o)) := Lib.hid (fun o => Below.next_alloc HB1.out o)
      have HW1a : Hid (∀ o, Below w1.heap.size w1 (w1.alloc o)) := Lib.hid (fun o => (Below.refl _ _).alloc (Nat.le_refl _) o)
      clear hob HD hck hen hlen h16 hlast
      go_wp2_with fail
      refine (HEN.out _ (HW1a.out _)).mono ?_
      rintro e w2 ⟨⟨v, rfl, hown⟩, hb2⟩
      obtain ⟨g, ce, rfl, hgb, hgl⟩ := World.ownsRow.form hown (by rw [ents_length]; omega)
      have hg0 : w1.heap.size < g := by simp at hgb; omega
      have hraw : w2.ownsRow (w1.heap.size + 1) 48 4 (.slice (some ⟨g, 0, none⟩) len ce) len ((ents seq ops len).flatMap cellsE) := by
        have h := hown
        unfold OwnsE at h
        rw [ents_length, World.size_alloc] at h
        exact h
      rw [ents_length]
      have HR := Lib.hid hraw
      have HBA : Hid (Below (w1.heap.size + 1) (w1.alloc (.cells #[.int .u64 seq, .slice a1 len c1] 27)) w2) := by
        have h := hb2
        rw [World.size_alloc] at h
        exact Lib.hid h
      clear hown hraw hb2 hgb
      go_wp2_with fail
      go_loopw [6] (fun i wr => ∃ (k : Nat) (xs : List Value), k ≤ len ∧ i = .int .i64 k ∧ wr.ownsRow (w1.heap.size + 1) 48 4 (.slice (some ⟨g, 0, none⟩) len ce) len xs ∧ Below (w1.heap.size + 1) (w1.alloc (.cells #[.int .u64 seq, .slice a1 len c1] 27)) wr) (fun i _ => len - (intOf i).toNat)
      case atStart => exact ⟨0, _, Nat.zero_le _, rfl, HR.out, HBA.out⟩
      case round =>
        obtain ⟨k, xs, hk, rfl, hown, hbel⟩ := hrel
        have hsz : w1.heap.size + 1 ≤ wr.heap.size := by have := hbel.size; simp at this; exact this
        by_cases hlt : k < len
        · have hxl : xs.length = len * 4 := hown.1
          obtain ⟨y, hy⟩ : ∃ y, xs[k * 4]? = some y := ⟨xs[k * 4], List.getElem?_eq_getElem (by omega)⟩
          have hcell : wr.cell? ⟨g, k * 4, none⟩ = some y := (hown.cellAt (k * 4) (by omega)).trans hy
          have hfz : wr.frozen? ⟨g, k * 4, none⟩ = false := hown.frozenAt (k * 4)
          have HST := Lib.hid (fun u => (hown.stored (k * 4) u).1)
          have HBE := Lib.hid hbel
          have hgw : g < wr.heap.size := by
            obtain ⟨g', c', e', h1, h2⟩ := World.ownsRow.form hown (by omega)
            simp only [Value.slice.injEq, Option.some.injEq, Addr.mk.injEq, and_true, true_and] at e'
            omega
          clear hown hbel hy
          go_wp2_with fail
          exact ⟨⟨k + 1, _, by omega, by go_num, HST.out _, HBE.out.setCell (p := ⟨g, k * 4, none⟩) (by show w1.heap.size + 1 ≤ g; omega) _⟩, by simp [intOf]; omega⟩
        · obtain rfl : k = len := by omega
          have kd0 : wr.cell? ⟨w1.heap.size, 0, none⟩ = some (.int .u64 seq) := (hbel.cell (p := ⟨w1.heap.size, 0, none⟩) (Nat.lt_succ_self _)).trans (by rw [World.cell?_alloc_new]; rfl)
          have kd1 : wr.cell? ⟨w1.heap.size, 1, none⟩ = some (.slice a1 k c1) := (hbel.cell (p := ⟨w1.heap.size, 1, none⟩) (Nat.lt_succ_self _)).trans (by rw [World.cell?_alloc_new]; rfl)
          have HWR : Hid (Below w1.heap.size w1 wr) := Lib.hid ((HW1a.out _).trans (hbel.mono (Nat.le_succ _)))
          have HBR : Hid (Below w.heap.size w wr) := Lib.hid (Below.next HB1.out HWR.out)
          clear hbel hown
          go_wp2_with fail
          refine (HEC.out _ HWR.out).mono ?_
          rintro e w3 ⟨rfl, hb3⟩
          have hz3 : wr.heap.size ≤ w3.heap.size := hb3.size
          have ke0 : w3.cell? ⟨w1.heap.size, 0, none⟩ = some (.int .u64 seq) := (hb3.cell (p := ⟨w1.heap.size, 0, none⟩) (by show w1.heap.size < wr.heap.size; omega)).trans kd0
          have ke1 : w3.cell? ⟨w1.heap.size, 1, none⟩ = some (.slice a1 k c1) := (hb3.cell (p := ⟨w1.heap.size, 1, none⟩) (by show w1.heap.size < wr.heap.size; omega)).trans kd1
          have HW3 := Lib.hid (Below.next HWR.out hb3)
          have HB3 := Lib.hid (Below.next HBR.out hb3)
          clear hb3 kd0 kd1
          go_wp2_with fail
          have HW3d : Hid (Below w1.heap.size w1 w3.drew) := Lib.hid HW3.out.drew
          go_region_held3 (fun w' => w'.cell? ⟨w1.heap.size, 0, none⟩ = some (.int .u64 seq) ∧ w'.cell? ⟨w1.heap.size, 1, none⟩ = some (.slice a1 k c1))
            (first
              | go_keep
              | (go_split_ands
                 have hy4 : w3.heap.size ≤ w4.heap.size := hb4.size
                 have hy5 : w4.heap.size ≤ w5.heap.size := hb5.size
                 refine ⟨?_, ?_⟩
                 · (refine (hb6.cell (p := ⟨w1.heap.size, 0, none⟩) (by show w1.heap.size < w5.heap.size; omega)).trans ?_; assumption)
                 · (refine (hb6.cell (p := ⟨w1.heap.size, 1, none⟩) (by show w1.heap.size < w5.heap.size; omega)).trans ?_; assumption))
              | (go_split_ands
                 have hy4 : w3.heap.size ≤ w4.heap.size := hb4.size
                 refine ⟨?_, ?_⟩
                 · (refine (hb5.cell (p := ⟨w1.heap.size, 0, none⟩) (by show w1.heap.size < w4.heap.size; omega)).trans ?_; assumption)
                 · (refine (hb5.cell (p := ⟨w1.heap.size, 1, none⟩) (by show w1.heap.size < w4.heap.size; omega)).trans ?_; assumption))
              | (go_split_ands
                 refine ⟨?_, ?_⟩
                 · exact (hb4.cell (p := ⟨w1.heap.size, 0, none⟩) (by show w1.heap.size < w3.heap.size; omega)).trans ke0
                 · exact (hb4.cell (p := ⟨w1.heap.size, 1, none⟩) (by show w1.heap.size < w3.heap.size; omega)).trans ke1))
            (first
              | (go_at_call 10; refine (HCK.out _ HW3d.out).mono ?_; rintro e w4 ⟨rfl, hb4⟩)
              | (go_at_call 13; refine (HLA.out _).mono ?_; rintro e w5 ⟨rfl, hb5⟩)
              | (go_at_call 15; refine (awake_any _).mono ?_; rintro e w6 ⟨rfl, hb6⟩))
          have HF := Lib.hid (Below.next (Below.next (Below.next HB3.out.drew hb4) hb5) hb6)
          clear hb4 hb5 hb6
          go_wp2_with fail
          go_ret
          exact ⟨rfl, HF.out⟩

set_option maxHeartbeats 4000000 in
theorem only_cut (S0 : ByteArray) (w : World) (hS0 : 12000 < S0.size) (hm0 : S0.size ≤ 9223372036854775807) :
    Calls Try.prog 7 #[.string S0] w (Gives (.bool true) w) := by
  obtain ⟨S, hSx⟩ : ∃ S, S0.extract 0 12000 = S := ⟨_, rfl⟩
  have hs : S.size ≤ 12000 := by rw [← hSx, ByteArray.size_extract]; omega
  have hd : ∀ W, Calls Try.prog 12 #[.string S] W (DecRead (Bt.decl S.data.toList) W) := fun W => decode_any S W (by omega)
  have HSX := Lib.hid hSx
  clear hSx
  have hsi : (12000 : Int) < S0.size := by omega
  cases hdc : Bt.decl S.data.toList with
  | none =>
    rw [hdc] at hd
    have HD := Lib.hid hd
    clear hd hdc
    go_enter Try.func7, Try.ntmps7
    go_wp2_with fail
    rw [HSX.out]
    refine (HD.out _).mono ?_
    rintro e w1 ⟨hb1, hcase⟩
    rcases hcase with ⟨_, rfl⟩ | ⟨seq', os, a4, c4, h, _, _⟩
    · have HB1 := Lib.hid hb1
      unfold batV
      clear hb1
      go_wp2_with fail
      refine (awake_any _).mono ?_
      rintro e w2 ⟨rfl, hb2⟩
      have HB2 := Lib.hid (Below.next (Below.next_alloc HB1.out _) hb2)
      clear hb2
      go_wp2_with fail
      go_ret
      exact ⟨rfl, HB2.out⟩
    · exact absurd h (by simp)
  | some x =>
    obtain ⟨seq, ops⟩ := x
    rw [hdc] at hd
    have HD := Lib.hid hd
    obtain ⟨hen, hck, hseq⟩ := Bt.encl_decl hdc
    obtain ⟨h16, hob, _, _, hlast⟩ := Bt.chk_ok hck
    clear hd hdc
    go_enter Try.func7, Try.ntmps7
    go_wp2_with fail
    rw [HSX.out]
    refine (HD.out _).mono ?_
    rintro e w1 ⟨hb1, hcase⟩
    rcases hcase with ⟨h, _⟩ | ⟨seq', os, a1, c1, h, rfl, hown⟩
    · exact absurd h (by simp)
    · obtain ⟨rfl, rfl⟩ : seq = seq' ∧ ops = os := by simpa using h
      have HB1 := Lib.hid hb1
      have HO := Lib.hid hown.sees
      have hw1 : w.heap.size ≤ w1.heap.size := hb1.size
      unfold batV
      clear hb1 hown h
      obtain ⟨len, hlen⟩ : ∃ len, ops.length = len := ⟨_, rfl⟩
      rw [hlen] at HO ⊢
      have hl1 : 1 ≤ len := by omega
      have hl16 : len ≤ 16 := by omega
      have HEN : Hid (∀ W, Below w1.heap.size w1 W → Calls Try.prog 14 #[.agg #[.int .u64 seq, .slice a1 len c1]] W fun e w' => (∃ v, e = .returned v ∧ OwnsE w' W.heap.size v (ents seq ops len)) ∧ Below W.heap.size W w') := Lib.hid (fun W hb =>
        entries_any seq a1 len c1 ops W (HO.out.below hb) hseq (by omega) (fun o ho => by
          have h := (hob o ho).1
          simp only [Bt.longOb, Bool.or_eq_false_iff, decide_eq_false_iff_not] at h
          omega))
      have HEC : Hid (∀ W, Below w1.heap.size w1 W → Calls Try.prog 9 #[.agg #[.int .u64 seq, .slice a1 len c1]] W (fun x W' => x = .returned (.tuple #[.string S, .int .i64 0]) ∧ Below W.heap.size W W')) := Lib.hid (fun W hb => by
        have h := encode_yes seq a1 len c1 ops W (HO.out.below hb) hseq hck
        unfold Told at h
        rw [mk_of hen.symm] at h
        exact h)
      have HCK : Hid (∀ W, Below w1.heap.size w1 W → Calls Try.prog 10 #[.agg #[.int .u64 seq, .slice a1 len c1]] W (Gives (.int .i64 0) W)) := Lib.hid (fun W hb => by
        have h := check_any seq a1 len c1 ops W (HO.out.below hb) hseq
        rw [hck] at h
        exact h)
      obtain ⟨L, hL, HLA⟩ : ∃ L : Nat, (seq : Int) ≤ (L : Int) ∧ Hid (∀ W, Calls Try.prog 13 #[.agg #[.int .u64 seq, .slice a1 len c1]] W (Gives (.int .u64 L) W)) := by
        refine ⟨lastN seq len, ?_, Lib.hid (fun W => last_any seq a1 len c1 W hseq (by omega))⟩
        unfold lastN
        rw [if_neg (by omega)]
        omega
      have HB1a : Hid (∀ o, Below w.heap.size w (w1.alloc o)) := Lib.hid (fun o => Below.next_alloc HB1.out o)
      have HW1a : Hid (∀ o, Below w1.heap.size w1 (w1.alloc o)) := Lib.hid (fun o => (Below.refl _ _).alloc (Nat.le_refl _) o)
      clear hob HD hck hen hlen h16 hlast
      go_wp2_with fail
      refine (HEN.out _ (HW1a.out _)).mono ?_
      rintro e w2 ⟨⟨v, rfl, hown⟩, hb2⟩
      obtain ⟨g, ce, rfl, hgb, hgl⟩ := World.ownsRow.form hown (by rw [ents_length]; omega)
      have hg0 : w1.heap.size < g := by simp at hgb; omega
      have hraw : w2.ownsRow (w1.heap.size + 1) 48 4 (.slice (some ⟨g, 0, none⟩) len ce) len ((ents seq ops len).flatMap cellsE) := by
        have h := hown
        unfold OwnsE at h
        rw [ents_length, World.size_alloc] at h
        exact h
      rw [ents_length]
      have HR := Lib.hid hraw
      have HBA : Hid (Below (w1.heap.size + 1) (w1.alloc (.cells #[.int .u64 seq, .slice a1 len c1] 27)) w2) := by
        have h := hb2
        rw [World.size_alloc] at h
        exact Lib.hid h
      clear hown hraw hb2 hgb
      go_wp2_with fail
      go_loopw [6] (fun i wr => ∃ (k : Nat) (xs : List Value), k ≤ len ∧ i = .int .i64 k ∧ wr.ownsRow (w1.heap.size + 1) 48 4 (.slice (some ⟨g, 0, none⟩) len ce) len xs ∧ Below (w1.heap.size + 1) (w1.alloc (.cells #[.int .u64 seq, .slice a1 len c1] 27)) wr) (fun i _ => len - (intOf i).toNat)
      case atStart => exact ⟨0, _, Nat.zero_le _, rfl, HR.out, HBA.out⟩
      case round =>
        obtain ⟨k, xs, hk, rfl, hown, hbel⟩ := hrel
        have hsz : w1.heap.size + 1 ≤ wr.heap.size := by have := hbel.size; simp at this; exact this
        by_cases hlt : k < len
        · have hxl : xs.length = len * 4 := hown.1
          obtain ⟨y, hy⟩ : ∃ y, xs[k * 4]? = some y := ⟨xs[k * 4], List.getElem?_eq_getElem (by omega)⟩
          have hcell : wr.cell? ⟨g, k * 4, none⟩ = some y := (hown.cellAt (k * 4) (by omega)).trans hy
          have hfz : wr.frozen? ⟨g, k * 4, none⟩ = false := hown.frozenAt (k * 4)
          have HST := Lib.hid (fun u => (hown.stored (k * 4) u).1)
          have HBE := Lib.hid hbel
          have hgw : g < wr.heap.size := by
            obtain ⟨g', c', e', h1, h2⟩ := World.ownsRow.form hown (by omega)
            simp only [Value.slice.injEq, Option.some.injEq, Addr.mk.injEq, and_true, true_and] at e'
            omega
          clear hown hbel hy
          go_wp2_with fail
          exact ⟨⟨k + 1, _, by omega, by go_num, HST.out _, HBE.out.setCell (p := ⟨g, k * 4, none⟩) (by show w1.heap.size + 1 ≤ g; omega) _⟩, by simp [intOf]; omega⟩
        · obtain rfl : k = len := by omega
          have kd0 : wr.cell? ⟨w1.heap.size, 0, none⟩ = some (.int .u64 seq) := (hbel.cell (p := ⟨w1.heap.size, 0, none⟩) (Nat.lt_succ_self _)).trans (by rw [World.cell?_alloc_new]; rfl)
          have kd1 : wr.cell? ⟨w1.heap.size, 1, none⟩ = some (.slice a1 k c1) := (hbel.cell (p := ⟨w1.heap.size, 1, none⟩) (Nat.lt_succ_self _)).trans (by rw [World.cell?_alloc_new]; rfl)
          have HWR : Hid (Below w1.heap.size w1 wr) := Lib.hid ((HW1a.out _).trans (hbel.mono (Nat.le_succ _)))
          have HBR : Hid (Below w.heap.size w wr) := Lib.hid (Below.next HB1.out HWR.out)
          clear hbel hown
          go_wp2_with fail
          refine (HEC.out _ HWR.out).mono ?_
          rintro e w3 ⟨rfl, hb3⟩
          have hz3 : wr.heap.size ≤ w3.heap.size := hb3.size
          have ke0 : w3.cell? ⟨w1.heap.size, 0, none⟩ = some (.int .u64 seq) := (hb3.cell (p := ⟨w1.heap.size, 0, none⟩) (by show w1.heap.size < wr.heap.size; omega)).trans kd0
          have ke1 : w3.cell? ⟨w1.heap.size, 1, none⟩ = some (.slice a1 k c1) := (hb3.cell (p := ⟨w1.heap.size, 1, none⟩) (by show w1.heap.size < wr.heap.size; omega)).trans kd1
          have HW3 := Lib.hid (Below.next HWR.out hb3)
          have HB3 := Lib.hid (Below.next HBR.out hb3)
          clear hb3 kd0 kd1
          go_wp2_with fail
          have HW3d : Hid (Below w1.heap.size w1 w3.drew) := Lib.hid HW3.out.drew
          go_region_held3 (fun w' => w'.cell? ⟨w1.heap.size, 0, none⟩ = some (.int .u64 seq) ∧ w'.cell? ⟨w1.heap.size, 1, none⟩ = some (.slice a1 k c1))
            (first
              | go_keep
              | (go_split_ands
                 have hy4 : w3.heap.size ≤ w4.heap.size := hb4.size
                 have hy5 : w4.heap.size ≤ w5.heap.size := hb5.size
                 refine ⟨?_, ?_⟩
                 · (refine (hb6.cell (p := ⟨w1.heap.size, 0, none⟩) (by show w1.heap.size < w5.heap.size; omega)).trans ?_; assumption)
                 · (refine (hb6.cell (p := ⟨w1.heap.size, 1, none⟩) (by show w1.heap.size < w5.heap.size; omega)).trans ?_; assumption))
              | (go_split_ands
                 have hy4 : w3.heap.size ≤ w4.heap.size := hb4.size
                 refine ⟨?_, ?_⟩
                 · (refine (hb5.cell (p := ⟨w1.heap.size, 0, none⟩) (by show w1.heap.size < w4.heap.size; omega)).trans ?_; assumption)
                 · (refine (hb5.cell (p := ⟨w1.heap.size, 1, none⟩) (by show w1.heap.size < w4.heap.size; omega)).trans ?_; assumption))
              | (go_split_ands
                 refine ⟨?_, ?_⟩
                 · exact (hb4.cell (p := ⟨w1.heap.size, 0, none⟩) (by show w1.heap.size < w3.heap.size; omega)).trans ke0
                 · exact (hb4.cell (p := ⟨w1.heap.size, 1, none⟩) (by show w1.heap.size < w3.heap.size; omega)).trans ke1))
            (first
              | (go_at_call 10; refine (HCK.out _ HW3d.out).mono ?_; rintro e w4 ⟨rfl, hb4⟩)
              | (go_at_call 13; refine (HLA.out _).mono ?_; rintro e w5 ⟨rfl, hb5⟩)
              | (go_at_call 15; refine (awake_any _).mono ?_; rintro e w6 ⟨rfl, hb6⟩))
          have HF := Lib.hid (Below.next (Below.next (Below.next HB3.out.drew hb4) hb5) hb6)
          clear hb4 hb5 hb6
          go_wp2_with fail
          go_ret
          exact ⟨rfl, HF.out⟩

theorem only_walk (s : ByteArray) (w : World) (hs : s.size ≤ 9223372036854775807) :
    Calls Try.prog 7 #[.string s] w (Gives (.bool true) w) := by
  by_cases h : 12000 < s.size
  · exact only_cut s w h hs
  · exact only_small s w (by omega)

end Go.Proofs.Ytohfjibhfbcanaa
