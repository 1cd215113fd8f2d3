/- The walk of MemList: for every input it answers true, and nothing that was there has turned. -/
import Derived.Test.YtmdnmabbphnhaaaMmJ
import Derived.Deep.Cut
import Derived.Deep.DeepCutAuto
import Derived.Deep.RegionHeld3
namespace Go.Proofs.Ytmdnmabbphnhaaa.Mm
open Go Go.RowKit Go.Proofs.Ytmdnmabbphnhaaa.Sk Go.Proofs.Ytmdnmabbphnhaaa.Sm
set_option linter.unusedVariables false
set_option linter.unusedSimpArgs false

set_option maxHeartbeats 16000000 in
set_option maxRecDepth 100000 in
theorem list_small {ao : Option Addr} {n cap : Nat} {l : List Pu} (w : World) (h : SeesQ w (.slice ao n cap) l) (hl : SmallQ l) :
    Calls Try.prog 4 #[.slice ao n cap] w fun e w' => e = .returned (.bool true) ∧ Below w.heap.size w w' := by
  have HG := Lib.hid (great_any w h)
  have HU := Lib.hid (fun W (hb : Below w.heap.size w W) => unlike_any W (h.below hb) hl)
  have HSM := Lib.hid hl
  have HAW := Lib.hid awake_any
  go_enter Try.func4, Try.ntmps4
  go_wp2_with fail
  refine HG.out.mono ?_
  rintro e w1 ⟨gb, rfl, hb1, _⟩
  have B1 := Lib.hid hb1
  clear hb1
  cases gb with
  | true =>
    go_wp2_with fail
    refine (HAW.out _).mono ?_
    rintro e w2 ⟨rfl, hb2⟩
    have B2 := Lib.hid (Below.next B1.out hb2)
    clear hb2
    go_wp2_with fail
    go_ret
    exact ⟨rfl, B2.out⟩
  | false =>
    go_wp2_with fail
    refine (HU.out _ B1.out).mono ?_
    rintro e w2 ⟨v, u, rfl, ho, hu, hb2⟩
    have HO := Lib.hid ho
    have HUN := Lib.hid hu
    have B2 := Lib.hid (Below.next B1.out hb2)
    obtain ⟨a2, cp2, e2⟩ := row_any ho
    subst e2
    clear ho hu hb2
    go_wp2_with fail
    refine (has_new _).mono ?_
    rintro e w3 ⟨m, rfl, h3, hb3⟩
    have H3 := Lib.hid h3
    have B3 := Lib.hid hb3
    clear h3 hb3
    have HEL := Lib.hid (fun (k : Nat) (x : Pu) (hx : u[k]? = some x) => HO.out.get hx)
    have HFIT : Hid (∀ x ∈ u, Fit x.e) := Lib.hid (fun x hx => HSM.out.2 x (HUN.out.sub x hx))
    have HUL : Hid (u.length ≤ 100) := Lib.hid (Nat.le_trans HUN.out.few HSM.out.1)
    have hul : (u.length : Int) ≤ 100 := by have := HUL.out; omega
    go_wp2_with fail
    go_loopw [5] (fun i wr => ∃ (k : Nat) (s r : List (It Ent)), k ≤ u.length ∧ i = .int .i64 (k : Int) ∧ Hid (Has w2.heap.size wr m s r) ∧ Hid (ents r = entsQ (u.take k)) ∧ Hid (Below w2.heap.size w2 wr)) (fun i _ => u.length - (intOf i).toNat)
    case atStart => exact ⟨0, [], [], Nat.zero_le _, rfl, H3, Lib.hid rfl, B3⟩
    case round =>
      obtain ⟨k, s, r, hk, rfl, HH, HE, HB⟩ := hrel
      by_cases hkn : k < u.length
      · obtain ⟨x, hx⟩ : ∃ x, u[k]? = some x := ⟨u[k]'hkn, List.getElem?_eq_getElem _⟩
        obtain ⟨g, cp3, hsh, hg, _, c0, c1, c2, c3, c4⟩ := HEL.out k x hx
        simp only [Value.slice.injEq] at hsh
        obtain ⟨rfl, _, rfl⟩ := hsh
        have hfx := HFIT.out x (List.mem_of_getElem? hx)
        obtain ⟨hz0, hz1⟩ := fill_step HUN.out HH.out.placed HH.out.ents_mem hx hfx HE.out x.h
        have HZ1 := Lib.hid hz1
        have hrl := len_of_ents HE.out hk
        have HPUT : Hid (∀ W, Below wr.heap.size wr W → Calls Try.prog 9 #[.pointer (some ⟨m, 0, none⟩), .agg #[.string x.e.key, .string x.e.val, .int .u64 (x.e.seq : Int), .bool x.e.gone], .int .i64 x.h] W fun y w' => y = .returned (.int .i64 0) ∧ Has w2.heap.size w' m (putS x.e x.h s) (putR x.e x.h s r) ∧ Below w2.heap.size W w') := Lib.hid (fun W hb => by
          have h1 := has_put (HH.out.below hb) (Nat.le_trans HB.out.size hb.size) x.e x.h hfx (by rw [hrl]; omega)
          rw [hz0] at h1
          exact h1)
        have HCS : Hid (∀ W, Below w2.heap.size w2 W → W.cell? ⟨g, k * 5, none⟩ = some (.string x.e.key) ∧ W.cell? ⟨g, k * 5 + 1, none⟩ = some (.string x.e.val) ∧ W.cell? ⟨g, k * 5 + 2, none⟩ = some (.int .u64 (x.e.seq : Int)) ∧ W.cell? ⟨g, k * 5 + 3, none⟩ = some (.bool x.e.gone) ∧ W.cell? ⟨g, k * 5 + 4, none⟩ = some (.int .i64 x.h)) := Lib.hid (fun W hb =>
          ⟨(hb.cell (p := ⟨g, _, none⟩) hg).trans c0, (hb.cell (p := ⟨g, _, none⟩) hg).trans c1, (hb.cell (p := ⟨g, _, none⟩) hg).trans c2, (hb.cell (p := ⟨g, _, none⟩) hg).trans c3, (hb.cell (p := ⟨g, _, none⟩) hg).trans c4⟩)
        have hki : (k : Int) < u.length := by omega
        clear hx hg c0 c1 c2 c3 c4 hfx hz0 hz1 hrl
        go_wp2_with fail
        refine wp_region_held_drew (S := fun w' => w'.cell? ⟨g, k * 5, none⟩ = some (.string x.e.key) ∧ w'.cell? ⟨g, k * 5 + 1, none⟩ = some (.string x.e.val) ∧ w'.cell? ⟨g, k * 5 + 2, none⟩ = some (.int .u64 (x.e.seq : Int)) ∧ w'.cell? ⟨g, k * 5 + 3, none⟩ = some (.bool x.e.gone) ∧ w'.cell? ⟨g, k * 5 + 4, none⟩ = some (.int .i64 x.h)) (by kernel_rfl) (HCS.out _ HB.out.drew) (fun hH => ?_)
        refine wpAnyH_take (i := 0) (v := ?v0) rfl (by kernel_rfl) (by kernel_rfl) (by kernel_rfl) (fun _ _ _ h => h) (Or.inl ⟨by kernel_rfl, ?y0⟩) (by assumption) ?_; case y0 => (intro w' hS; obtain ⟨s0, s1, s2, s3, s4⟩ := hS; go_simp; try with_reducible rfl)
        simp only [Act.put, List.setIfInBounds_toArray, List.set_cons_zero, List.set_cons_succ]
        refine wpAnyH_take (i := 1) (v := ?v1) rfl (by kernel_rfl) (by kernel_rfl) (by kernel_rfl) (fun _ _ _ h => h) (Or.inl ⟨by kernel_rfl, ?y1⟩) (by assumption) ?_; case y1 => (intro w' hS; obtain ⟨s0, s1, s2, s3, s4⟩ := hS; go_simp; try with_reducible rfl)
        simp only [Act.put, List.setIfInBounds_toArray, List.set_cons_zero, List.set_cons_succ]
        refine wpAnyH_take (i := 2) (v := ?v2) rfl (by kernel_rfl) (by kernel_rfl) (by kernel_rfl) (fun _ _ _ h => h) (Or.inl ⟨by kernel_rfl, ?y2⟩) (by assumption) ?_; case y2 => (intro w' hS; obtain ⟨s0, s1, s2, s3, s4⟩ := hS; go_simp; try with_reducible rfl)
        simp only [Act.put, List.setIfInBounds_toArray, List.set_cons_zero, List.set_cons_succ]
        refine wpAnyH_take (i := 3) (v := ?v3) rfl (by kernel_rfl) (by kernel_rfl) (by kernel_rfl) (fun _ _ _ h => h) (Or.inl ⟨by kernel_rfl, ?y3⟩) (by assumption) ?_; case y3 => (intro w' hS; obtain ⟨s0, s1, s2, s3, s4⟩ := hS; go_simp; try with_reducible rfl)
        simp only [Act.put, List.setIfInBounds_toArray, List.set_cons_zero, List.set_cons_succ]
        refine wpAnyH_take (i := 4) (v := ?v4) rfl (by kernel_rfl) (by kernel_rfl) (by kernel_rfl) (fun _ _ _ h => h) (Or.inl ⟨by kernel_rfl, ?y4⟩) (by assumption) ?_; case y4 => (intro w' hS; obtain ⟨s0, s1, s2, s3, s4⟩ := hS; go_simp; try with_reducible rfl)
        simp only [Act.put, List.setIfInBounds_toArray, List.set_cons_zero, List.set_cons_succ]
        refine wpAnyH_take (i := 5) (v := ?v5) rfl (by kernel_rfl) (by kernel_rfl) (by kernel_rfl) (fun _ _ _ h => h) (Or.inl ⟨by kernel_rfl, ?y5⟩) (by assumption) ?_; case y5 => (intro w' hS; obtain ⟨s0, s1, s2, s3, s4⟩ := hS; go_simp; try with_reducible rfl)
        simp only [Act.put, List.setIfInBounds_toArray, List.set_cons_zero, List.set_cons_succ]
        refine wpAnyH_take (i := 6) (v := ?v6) rfl (by kernel_rfl) (by kernel_rfl) (by kernel_rfl) (fun _ _ _ h => h) (Or.inl ⟨by kernel_rfl, ?y6⟩) (by assumption) ?_; case y6 => (intro w' hS; obtain ⟨s0, s1, s2, s3, s4⟩ := hS; go_simp; try with_reducible rfl)
        simp only [Act.put, List.setIfInBounds_toArray, List.set_cons_zero, List.set_cons_succ]
        refine wpAnyH_take (i := 7) (v := ?v7) rfl (by kernel_rfl) (by kernel_rfl) (by kernel_rfl) (fun _ _ _ h => h) (Or.inl ⟨by kernel_rfl, ?y7⟩) (by assumption) ?_; case y7 => (intro w' hS; obtain ⟨s0, s1, s2, s3, s4⟩ := hS; go_simp; try with_reducible rfl)
        simp only [Act.put, List.setIfInBounds_toArray, List.set_cons_zero, List.set_cons_succ]
        refine wpAnyH_take (i := 8) (v := ?v8) rfl (by kernel_rfl) (by kernel_rfl) (by kernel_rfl) (fun _ _ _ h => h) (Or.inl ⟨by kernel_rfl, ?y8⟩) (by assumption) ?_; case y8 => (intro w' hS; obtain ⟨s0, s1, s2, s3, s4⟩ := hS; go_simp; try with_reducible rfl)
        simp only [Act.put, List.setIfInBounds_toArray, List.set_cons_zero, List.set_cons_succ]
        refine wpAnyH_take (i := 9) (v := ?v9) rfl (by kernel_rfl) (by kernel_rfl) (by kernel_rfl) (fun _ _ _ h => h) (Or.inl ⟨by kernel_rfl, ?y9⟩) (by assumption) ?_; case y9 => (intro w' hS; obtain ⟨s0, s1, s2, s3, s4⟩ := hS; go_simp; try with_reducible rfl)
        simp only [Act.put, List.setIfInBounds_toArray, List.set_cons_zero, List.set_cons_succ]
        refine wpAnyH_take (i := 10) (v := ?v10) rfl (by kernel_rfl) (by kernel_rfl) (by kernel_rfl) (fun _ _ _ h => h) (Or.inl ⟨by kernel_rfl, ?y10⟩) (by assumption) ?_; case y10 => (intro w' hS; obtain ⟨s0, s1, s2, s3, s4⟩ := hS; go_simp; try with_reducible rfl)
        simp only [Act.put, List.setIfInBounds_toArray, List.set_cons_zero, List.set_cons_succ]
        refine wpAnyH_ready (rs := [11]) (by kernel_rfl) (by simp) ?_
        refine AllReadyH.cons rfl (fun K hK => ?_) AllReadyH.nil
        go_simp
        refine (HPUT.out _ (drew_below (Below.refl _ _))).mono ?_
        rintro y w4 ⟨rfl, h4, hb4⟩
        have H4 := Lib.hid h4
        have B4 : Hid (Below w2.heap.size w2 w4) := Lib.hid (HB.out.drew.trans hb4)
        clear h4 hb4
        refine hK.out _ _ (HCS.out _ B4.out) (fun _ => ?_)
        clear hK K hH
        try simp only [Act.put, List.setIfInBounds_toArray, List.set_cons_zero, List.set_cons_succ]
        refine wpAnyH_done (by kernel_rfl) ?_ _
        go_wp2_with fail
        go_roundw
        case rel => exact ⟨k + 1, _, _, by omega, by go_num, H4, HZ1, B4⟩
        case measure => simp [intOf]; omega
      · obtain rfl : k = u.length := by omega
        have hub : u.take u.length = u := List.take_of_length_le (Nat.le_refl _)
        rw [hub] at HE
        clear hub hkn hk
        have hsl : s.length = u.length := by
          have h1 := HH.out.kin.len
          have h2 := congrArg List.length HE.out
          simp only [ents, entsQ, List.length_map] at h2
          omega
        have HSL := Lib.hid hsl
        have HRG := Lib.hid (has_range HH.out ⟨#[]⟩ ⟨#[]⟩ (by decide))
        rw [show rangeL s (⟨#[]⟩ : ByteArray).data.toList (⟨#[]⟩ : ByteArray).data.toList = ents s from range_nil s] at HRG
        clear hsl
        go_wp2_with fail
        refine HRG.out.mono ?_
        rintro e w4 ⟨v4, rfl, ho4, hb4⟩
        have H4 := Lib.hid (HH.out.below hb4)
        have HO4 := Lib.hid ho4
        have B4 := Lib.hid (HB.out.trans (hb4.mono HB.out.size))
        obtain ⟨a4, cp4, e4⟩ := row_any ho4
        subst e4
        obtain ⟨L, hm4, hl4⟩ := H4.out.list
        have hrow := row_in hl4 0 (by omega)
        rw [row_zero (fun y hy => (hl4.hgt y hy).1)] at hrow
        have HR := Lib.hid hrow
        clear ho4 hb4 hl4 hrow HRG
        rw [show (ents s).length = s.length by simp [ents], HSL.out]
        go_wp2_with fail
        refine HR.out.mono ?_
        rintro e w5 ⟨v5, rfl, ho5, hb5⟩
        have H5 := Lib.hid (H4.out.below hb5)
        have HO5 := Lib.hid ho5
        have HOE := Lib.hid (HO4.out.below hb5)
        have B5 := Lib.hid (B4.out.trans (hb5.mono B4.out.size))
        obtain ⟨a5, cp5, e5⟩ := row_any ho5
        subst e5
        obtain ⟨L5, hm5, hl5⟩ := H5.out.list
        have HT := Lib.hid (towers_any hl5)
        clear ho5 hb5 hl5 HR
        rw [HSL.out]
        go_wp2_with fail
        refine HT.out.mono ?_
        rintro e w6 ⟨v6, rfl, ho6, hb6⟩
        have H6 := Lib.hid (H5.out.below hb6)
        have HO6 : Hid (w6.ownsRow w4.heap.size 9 1 (.slice a5 s.length cp5) s.length (keyCells s)) := Lib.hid (ownsRow_below HO5.out hb6)
        have HOE6 := Lib.hid (HOE.out.below hb6)
        have B6 := Lib.hid (B5.out.trans (hb6.mono B5.out.size))
        obtain ⟨a6, cp6, e6⟩ := row_any ho6
        subst e6
        clear ho6 hb6
        rw [HSL.out]
        go_wp2_with fail
        go_loopw [8] (fun i wr => ∃ k : Nat, k ≤ u.length ∧ i = .int .i64 (k : Int) ∧ Hid (Below w6.heap.size w6 wr)) (fun i _ => u.length - (intOf i).toNat)
        case atStart => exact ⟨0, Nat.zero_le _, rfl, Lib.hid (Below.refl _ _)⟩
        case round =>
          obtain ⟨j, hj, rfl, HBR⟩ := hrel
          by_cases hjn : j < u.length
          · obtain ⟨y, hy⟩ : ∃ y, s[j]? = some y := ⟨s[j]'(by rw [HSL.out]; exact hjn), List.getElem?_eq_getElem _⟩
            have hys := List.mem_of_getElem? hy
            have H7 := Lib.hid (H6.out.below HBR.out)
            obtain ⟨L, hm7, hl7⟩ := H7.out.list
            obtain ⟨g4, cq4, hsh4, _, hg4, _, _, c0', c1', c2', c3'⟩ := (HOE6.out.below HBR.out).get (ents_get hy)
            obtain ⟨g5, cq5, hsh5, _, hg5, _, _, hc5⟩ := row_shape (ownsRow_below HO6.out HBR.out) (by rw [HSL.out]; omega)
            simp only [Value.slice.injEq] at hsh4 hsh5
            obtain ⟨rfl, _, rfl⟩ := hsh4
            obtain ⟨rfl, _, rfl⟩ := hsh5
            have hp' : wr.cell? ⟨g5, j, none⟩ = some (.string (txt y.key)) := hc5 j _ (by unfold keyCells; rw [List.getElem?_map, hy]; rfl)
            have hat := H7.out.placed.at_ y hys
            have hfy := H7.out.fit y.val (mem_ents.2 ⟨y, hys, rfl⟩)
            have HFIND : Hid (Sk.find y.key s = some y) := Lib.hid (find_mem H7.out.placed.up.one hys rfl)
            have HPL : Hid (∀ W : World, Calls Try.prog 23 #[.string y.val.key, .int .u64 (y.val.seq : Int)] W fun e w' => e = .returned (.string (txt y.key)) ∧ Below W.heap.size W w') := Lib.hid (fun W => by
              have h1 := place_any y.val.key y.val.seq W (by have := hfy.key; omega) hfy.seq
              rw [show (⟨(place y.val.key.data.toList y.val.seq).toArray⟩ : ByteArray) = txt y.key by rw [hat]; rfl] at h1
              exact h1)
            have HGET : Hid (∀ W, Below wr.heap.size wr W → Calls Try.prog 22 #[.pointer (some ⟨L.b, 0, none⟩), .string (txt y.key)] W fun e w' => e = .returned (.tuple #[.agg #[.string y.val.key, .string y.val.val, .int .u64 (y.val.seq : Int), .bool y.val.gone], .bool true]) ∧ Below W.heap.size W w') := Lib.hid (fun W hb => by
              have h1 := get_any (hl7.below hb) (txt y.key)
              rw [show Sk.find (txt y.key).data.toList s = some y from HFIND.out] at h1
              exact h1)
            -- the place ahead of it
            have hprev : j = 0 ∨ (0 < j ∧ ∃ z : It Ent, wr.cell? ⟨g5, j - 1, none⟩ = some (.string (txt z.key)) ∧ Op.bytesLess (txt y.key).toList (txt z.key).toList = false ∧ ((txt y.key).toList == (txt z.key).toList) = false) := by
              rcases Nat.eq_zero_or_pos j with e | e
              · exact Or.inl e
              · right
                have hlt : j - 1 < s.length := by rw [HSL.out]; omega
                have hz : s[j - 1]? = some s[j - 1] := List.getElem?_eq_getElem hlt
                have hup : bytesBefore s[j - 1].key y.key = true := by
                  have h1 := List.pairwise_iff_getElem.1 H7.out.placed.up (j - 1) j hlt (by rw [HSL.out]; exact hjn) (by omega)
                  have h2 := (List.getElem?_eq_some_iff.1 hy).2
                  rw [h2] at h1
                  exact h1
                refine ⟨e, s[j - 1], hc5 (j - 1) _ (by unfold keyCells; rw [List.getElem?_map, hz]; rfl), ?_, ?_⟩
                · rw [less_eq, txt_list, txt_list]; exact lt_asym hup
                · rw [txt_list, txt_list]; exact beq_false_of_ne (lt_ne hup).symm
            have hji : (j : Int) < u.length := by omega
            generalize txt y.key = Y at *
            generalize y.val = yv at *
            obtain ⟨VK, VV, VS, VG⟩ := yv
            dsimp only at c0' c1' c2' c3' HPL HGET
            have HCL : Hid (∀ W, Below wr.heap.size wr W → W.cell? ⟨m, 0, none⟩ = some (.pointer (some ⟨L.b, 0, none⟩)) ∧ W.cell? ⟨g5, j, none⟩ = some (.string Y)) := Lib.hid (fun W hb => ⟨(hb.cell (p := ⟨m, 0, none⟩) (World.block_lt_of_cell? wr _ hm7)).trans hm7, (hb.cell (p := ⟨g5, j, none⟩) hg5).trans hp'⟩)
            have HBD : Hid (Below wr.heap.size wr wr.drew) := Lib.hid (drew_below (Below.refl _ _))
            have HAE : Hid (∀ W, Below wr.heap.size wr W → W.cell? ⟨g4, j * 4, none⟩ = some (.string VK) ∧ W.cell? ⟨g4, j * 4 + 1, none⟩ = some (.string VV) ∧ W.cell? ⟨g4, j * 4 + 2, none⟩ = some (.int .u64 (VS : Int)) ∧ W.cell? ⟨g4, j * 4 + 3, none⟩ = some (.bool VG)) := Lib.hid (fun W hb => ⟨(hb.cell (p := ⟨g4, _, none⟩) hg4).trans c0', (hb.cell (p := ⟨g4, _, none⟩) hg4).trans c1', (hb.cell (p := ⟨g4, _, none⟩) hg4).trans c2', (hb.cell (p := ⟨g4, _, none⟩) hg4).trans c3'⟩)
            have HPV := Lib.hid hprev
            have HP5 := Lib.hid hp'
            have HG5 := Lib.hid hg5
            clear hy hys hl7 hm7 hc5 hp' hat hfy c0' c1' c2' c3' hprev hg4 hg5
            go_wp2_with fail
            go_cut [9, 10] from 67 to 84 (fun a b wc => Hid (∃ X : Nat, a = .pointer (some ⟨X, 0, none⟩) ∧ b = .bool true ∧ wc.heap[X]? = some (.cells #[.string VK, .string VV, .int .u64 (VS : Int), .bool VG] 32 (0, 0)) ∧ Below wr.heap.size wr wc))
            case first =>
              refine wp_region_held_drew (S := fun w' => w'.cell? ⟨m, 0, none⟩ = some (.pointer (some ⟨L.b, 0, none⟩)) ∧ w'.cell? ⟨g5, j, none⟩ = some (.string Y)) (by kernel_rfl) (HCL.out _ HBD.out) (fun hH => ?_)
              refine wpAnyH_take (i := 0) (v := ?v0r) rfl (by kernel_rfl) (by kernel_rfl) (by kernel_rfl) (fun _ _ _ h => h) (Or.inl ⟨by kernel_rfl, ?y0r⟩) (by assumption) ?_; case y0r => (intro w' hS; obtain ⟨s0, s1⟩ := hS; go_simp; try with_reducible rfl)
              simp only [Act.put, List.setIfInBounds_toArray, List.set_cons_zero, List.set_cons_succ]
              refine wpAnyH_take (i := 1) (v := ?v1r) rfl (by kernel_rfl) (by kernel_rfl) (by kernel_rfl) (fun _ _ _ h => h) (Or.inl ⟨by kernel_rfl, ?y1r⟩) (by assumption) ?_; case y1r => (intro w' hS; obtain ⟨s0, s1⟩ := hS; go_simp; try with_reducible rfl)
              simp only [Act.put, List.setIfInBounds_toArray, List.set_cons_zero, List.set_cons_succ]
              refine wpAnyH_take (i := 2) (v := ?v2r) rfl (by kernel_rfl) (by kernel_rfl) (by kernel_rfl) (fun _ _ _ h => h) (Or.inl ⟨by kernel_rfl, ?y2r⟩) (by assumption) ?_; case y2r => (intro w' hS; obtain ⟨s0, s1⟩ := hS; go_simp; try with_reducible rfl)
              simp only [Act.put, List.setIfInBounds_toArray, List.set_cons_zero, List.set_cons_succ]
              refine wpAnyH_take (i := 3) (v := ?v3r) rfl (by kernel_rfl) (by kernel_rfl) (by kernel_rfl) (fun _ _ _ h => h) (Or.inl ⟨by kernel_rfl, ?y3r⟩) (by assumption) ?_; case y3r => (intro w' hS; obtain ⟨s0, s1⟩ := hS; go_simp; try with_reducible rfl)
              simp only [Act.put, List.setIfInBounds_toArray, List.set_cons_zero, List.set_cons_succ]
              refine wpAnyH_take (i := 4) (v := ?v4r) rfl (by kernel_rfl) (by kernel_rfl) (by kernel_rfl) (fun _ _ _ h => h) (Or.inl ⟨by kernel_rfl, ?y4r⟩) (by assumption) ?_; case y4r => (intro w' hS; obtain ⟨s0, s1⟩ := hS; go_simp; try with_reducible rfl)
              simp only [Act.put, List.setIfInBounds_toArray, List.set_cons_zero, List.set_cons_succ]
              refine wpAnyH_take (i := 5) (v := ?v5r) rfl (by kernel_rfl) (by kernel_rfl) (by kernel_rfl) (fun _ _ _ h => h) (Or.inl ⟨by kernel_rfl, ?y5r⟩) (by assumption) ?_; case y5r => (intro w' hS; obtain ⟨s0, s1⟩ := hS; go_simp; try with_reducible rfl)
              simp only [Act.put, List.setIfInBounds_toArray, List.set_cons_zero, List.set_cons_succ]
              refine wpAnyH_take (i := 6) (v := ?v6r) rfl (by kernel_rfl) (by kernel_rfl) (by kernel_rfl) (fun _ _ _ h => h) (Or.inl ⟨by kernel_rfl, ?y6r⟩) (by assumption) ?_; case y6r => (intro w' hS; obtain ⟨s0, s1⟩ := hS; go_simp; try with_reducible rfl)
              simp only [Act.put, List.setIfInBounds_toArray, List.set_cons_zero, List.set_cons_succ]
              refine wpAnyH_take (i := 7) (v := ?v7r) rfl (by kernel_rfl) (by kernel_rfl) (by kernel_rfl) (fun _ _ _ h => h) (Or.inl ⟨by kernel_rfl, ?y7r⟩) (by assumption) ?_; case y7r => (intro w' hS; obtain ⟨s0, s1⟩ := hS; go_simp; try with_reducible rfl)
              simp only [Act.put, List.setIfInBounds_toArray, List.set_cons_zero, List.set_cons_succ]
              refine wpAnyH_ready (rs := [8, 12]) (by kernel_rfl) (by simp) ?_
              refine AllReadyH.cons rfl (fun K hK => ?_) (AllReadyH.cons rfl (fun K hK => ?_) AllReadyH.nil)
              · go_simp
                refine (HGET.out _ HBD.out).mono ?_
                rintro e w8 ⟨rfl, hb8⟩
                have HB8 := Lib.hid (Below.next HBD.out hb8)
                clear hb8
                refine hK.out _ _ (HCL.out _ HB8.out) (fun _ => ?_)
                clear hK K
                try simp only [Act.put, List.setIfInBounds_toArray, List.set_cons_zero, List.set_cons_succ]
                refine wpAnyH_take (i := 9) (v := ?v9b) rfl (by kernel_rfl) (by kernel_rfl) (by kernel_rfl) (fun _ _ _ h => h) (Or.inl ⟨by kernel_rfl, ?y9b⟩) (by assumption) ?_; case y9b => (intro w' hS; obtain ⟨s0, s1⟩ := hS; go_simp; try with_reducible rfl)
                simp only [Act.put, List.setIfInBounds_toArray, List.set_cons_zero, List.set_cons_succ]
                refine wpAnyH_take (i := 10) (v := ?v10b) rfl (by kernel_rfl) (by kernel_rfl) (by kernel_rfl) (fun _ _ _ h => h) (Or.inl ⟨by kernel_rfl, ?y10b⟩) (by assumption) ?_; case y10b => (intro w' hS; obtain ⟨s0, s1⟩ := hS; go_simp; try with_reducible rfl)
                simp only [Act.put, List.setIfInBounds_toArray, List.set_cons_zero, List.set_cons_succ]
                refine wpAnyH_take (i := 11) (v := ?v11b) rfl (by kernel_rfl) (by kernel_rfl) (by kernel_rfl) (fun _ _ _ h => h) (Or.inl ⟨by kernel_rfl, ?y11b⟩) (by assumption) ?_; case y11b => (intro w' hS; obtain ⟨s0, s1⟩ := hS; go_simp; try with_reducible rfl)
                simp only [Act.put, List.setIfInBounds_toArray, List.set_cons_zero, List.set_cons_succ]
                refine wpAnyH_ready (rs := [12]) (by kernel_rfl) (by simp) ?_
                refine AllReadyH.cons rfl (fun K hK => ?_) AllReadyH.nil
                go_simp
                have HBA := Lib.hid ((HB8.out).alloc (HB8.out).size (.cells #[.string ⟨#[]⟩, .string ⟨#[]⟩, .int .u64 0, .bool false] 32))
                have hX : ((w8).alloc (.cells #[.string ⟨#[]⟩, .string ⟨#[]⟩, .int .u64 0, .bool false] 32)).heap[w8.heap.size]? = some (.cells #[.string ⟨#[]⟩, .string ⟨#[]⟩, .int .u64 0, .bool false] 32 (0, 0)) := by have := heap_alloc_new (w8) (.cells #[.string ⟨#[]⟩, .string ⟨#[]⟩, .int .u64 0, .bool false] 32); simpa using this
                refine hK.out _ _ (HCL.out _ HBA.out) (fun _ => ?_)
                clear hK K
                try simp only [Act.put, List.setIfInBounds_toArray, List.set_cons_zero, List.set_cons_succ]
                refine wpAnyH_ready (rs := [13]) (by kernel_rfl) (by simp) ?_
                refine AllReadyH.cons rfl (fun K hK => ?_) AllReadyH.nil
                go_simp
                have hbz := HB8.out.alloc HB8.out.size (.cells #[.string VK, .string VV, .int .u64 (VS : Int), .bool VG] 32)
                have hz := heap_alloc_new w8 (.cells #[.string VK, .string VV, .int .u64 (VS : Int), .bool VG] 32)
                refine hK.out _ _ (HCL.out _ hbz) (fun _ => ?_)
                clear hK K
                try simp only [Act.put, List.setIfInBounds_toArray, List.set_cons_zero, List.set_cons_succ]
                refine wpAnyH_ready (rs := [14]) (by kernel_rfl) (by simp) ?_
                refine AllReadyH.cons rfl (fun K hK => ?_) AllReadyH.nil
                go_simp
                refine hK.out _ _ (HCL.out _ hbz) (fun _ => ?_)
                clear hK K
                try simp only [Act.put, List.setIfInBounds_toArray, List.set_cons_zero, List.set_cons_succ]
                refine wpAnyH_done (by kernel_rfl) ?_ _
                go_wp2_with fail
                go_meet
                case rel => exact Lib.hid ⟨_, rfl, rfl, hz, hbz⟩
              · go_simp
                have HBA := Lib.hid ((HBD.out).alloc (HBD.out).size (.cells #[.string ⟨#[]⟩, .string ⟨#[]⟩, .int .u64 0, .bool false] 32))
                have hX : ((wr.drew).alloc (.cells #[.string ⟨#[]⟩, .string ⟨#[]⟩, .int .u64 0, .bool false] 32)).heap[wr.heap.size]? = some (.cells #[.string ⟨#[]⟩, .string ⟨#[]⟩, .int .u64 0, .bool false] 32 (0, 0)) := by have := heap_alloc_new (wr.drew) (.cells #[.string ⟨#[]⟩, .string ⟨#[]⟩, .int .u64 0, .bool false] 32); simpa using this
                refine hK.out _ _ (HCL.out _ HBA.out) (fun _ => ?_)
                clear hK K
                try simp only [Act.put, List.setIfInBounds_toArray, List.set_cons_zero, List.set_cons_succ]
                refine wpAnyH_ready (rs := [8]) (by kernel_rfl) (by simp) ?_
                refine AllReadyH.cons rfl (fun K hK => ?_) AllReadyH.nil
                go_simp
                refine (HGET.out _ HBA.out).mono ?_
                rintro e w8 ⟨rfl, hb8⟩
                have HB8 := Lib.hid (Below.next HBA.out hb8)
                have hX8 := (hb8.block _ (heap_lt hX)).trans hX
                clear hb8
                refine hK.out _ _ (HCL.out _ HB8.out) (fun _ => ?_)
                clear hK K
                try simp only [Act.put, List.setIfInBounds_toArray, List.set_cons_zero, List.set_cons_succ]
                refine wpAnyH_take (i := 9) (v := ?v9a) rfl (by kernel_rfl) (by kernel_rfl) (by kernel_rfl) (fun _ _ _ h => h) (Or.inl ⟨by kernel_rfl, ?y9a⟩) (by assumption) ?_; case y9a => (intro w' hS; obtain ⟨s0, s1⟩ := hS; go_simp; try with_reducible rfl)
                simp only [Act.put, List.setIfInBounds_toArray, List.set_cons_zero, List.set_cons_succ]
                refine wpAnyH_take (i := 10) (v := ?v10a) rfl (by kernel_rfl) (by kernel_rfl) (by kernel_rfl) (fun _ _ _ h => h) (Or.inl ⟨by kernel_rfl, ?y10a⟩) (by assumption) ?_; case y10a => (intro w' hS; obtain ⟨s0, s1⟩ := hS; go_simp; try with_reducible rfl)
                simp only [Act.put, List.setIfInBounds_toArray, List.set_cons_zero, List.set_cons_succ]
                refine wpAnyH_take (i := 11) (v := ?v11a) rfl (by kernel_rfl) (by kernel_rfl) (by kernel_rfl) (fun _ _ _ h => h) (Or.inl ⟨by kernel_rfl, ?y11a⟩) (by assumption) ?_; case y11a => (intro w' hS; obtain ⟨s0, s1⟩ := hS; go_simp; try with_reducible rfl)
                simp only [Act.put, List.setIfInBounds_toArray, List.set_cons_zero, List.set_cons_succ]
                obtain ⟨b0, b1, b2, b3, f0, f1, f2, f3⟩ := box4 hX8
                refine wpAnyH_ready (rs := [13]) (by kernel_rfl) (by simp) ?_
                refine AllReadyH.cons rfl (fun K hK => ?_) AllReadyH.nil
                go_simp
                have hbz := set4_below (B := wr.heap.size) (b := wr.heap.size) (.string VK) (.string VV) (.int .u64 (VS : Int)) (.bool VG) HB8.out (by first | exact Nat.le_refl _ | exact HB8.out.size)
                have hz := set4_heap (.string VK) (.string VV) (.int .u64 (VS : Int)) (.bool VG) hX8
                dsimp only [set4] at hz hbz
                refine hK.out _ _ (HCL.out _ hbz) (fun _ => ?_)
                clear hK K
                try simp only [Act.put, List.setIfInBounds_toArray, List.set_cons_zero, List.set_cons_succ]
                refine wpAnyH_ready (rs := [14]) (by kernel_rfl) (by simp) ?_
                refine AllReadyH.cons rfl (fun K hK => ?_) AllReadyH.nil
                go_simp
                refine hK.out _ _ (HCL.out _ hbz) (fun _ => ?_)
                clear hK K
                try simp only [Act.put, List.setIfInBounds_toArray, List.set_cons_zero, List.set_cons_succ]
                refine wpAnyH_done (by kernel_rfl) ?_ _
                go_wp2_with fail
                go_meet
                case rel => exact Lib.hid ⟨_, rfl, rfl, hz, hbz⟩
            case rest =>
              obtain ⟨X, rfl, rfl, hxb, hbc⟩ := hcut.out
              have HXB := Lib.hid hxb
              have HBC := Lib.hid hbc
              clear hcut hxb hbc HGET HCL
              have HC9 : Hid (∀ W, Below wc.heap.size wc W → W.cell? ⟨g5, j, none⟩ = some (.string Y) ∧ W.cell? ⟨g4, j * 4, none⟩ = some (.string VK) ∧ W.cell? ⟨g4, j * 4 + 1, none⟩ = some (.string VV) ∧ W.cell? ⟨g4, j * 4 + 2, none⟩ = some (.int .u64 (VS : Int)) ∧ W.cell? ⟨g4, j * 4 + 3, none⟩ = some (.bool VG) ∧ W.cell? ⟨X, 0, none⟩ = some (.string VK) ∧ W.cell? ⟨X, 1, none⟩ = some (.string VV) ∧ W.cell? ⟨X, 2, none⟩ = some (.int .u64 (VS : Int)) ∧ W.cell? ⟨X, 3, none⟩ = some (.bool VG)) := Lib.hid (fun W hb => by
                have hbw := HBC.out.trans (hb.mono HBC.out.size)
                obtain ⟨a, b, c, d⟩ := HAE.out W hbw
                obtain ⟨x0, x1, x2, x3, _⟩ := box4 ((hb.block _ (heap_lt HXB.out)).trans HXB.out)
                exact ⟨(hbw.cell (p := ⟨g5, j, none⟩) HG5.out).trans HP5.out, a, b, c, d, x0, x1, x2, x3⟩)
              rcases HPV.out with hj0 | ⟨hj0, z, hz1, hz2, hz3⟩
              · subst hj0
                have HC0 : Hid (∀ W, Below wc.heap.size wc W → W.cell? ⟨g5, 0, none⟩ = some (.string Y) ∧ W.cell? ⟨g4, 0, none⟩ = some (.string VK) ∧ W.cell? ⟨g4, 1, none⟩ = some (.string VV) ∧ W.cell? ⟨g4, 2, none⟩ = some (.int .u64 (VS : Int)) ∧ W.cell? ⟨g4, 3, none⟩ = some (.bool VG) ∧ W.cell? ⟨X, 0, none⟩ = some (.string VK) ∧ W.cell? ⟨X, 1, none⟩ = some (.string VV) ∧ W.cell? ⟨X, 2, none⟩ = some (.int .u64 (VS : Int)) ∧ W.cell? ⟨X, 3, none⟩ = some (.bool VG)) := Lib.hid (fun W hb => by
                  have h1 := HC9.out W hb
                  simpa only [Nat.zero_mul, Nat.zero_add] using h1)
                clear hji
                have hji : (0 : Int) < u.length := by omega
                go_wp2_with fail
                refine wp_region_held_drew (S := fun w' => w'.cell? ⟨g5, 0, none⟩ = some (.string Y) ∧ w'.cell? ⟨g4, 0, none⟩ = some (.string VK) ∧ w'.cell? ⟨g4, 1, none⟩ = some (.string VV) ∧ w'.cell? ⟨g4, 2, none⟩ = some (.int .u64 (VS : Int)) ∧ w'.cell? ⟨g4, 3, none⟩ = some (.bool VG) ∧ w'.cell? ⟨X, 0, none⟩ = some (.string VK) ∧ w'.cell? ⟨X, 1, none⟩ = some (.string VV) ∧ w'.cell? ⟨X, 2, none⟩ = some (.int .u64 (VS : Int)) ∧ w'.cell? ⟨X, 3, none⟩ = some (.bool VG)) (by kernel_rfl) (HC0.out _ (drew_below (Below.refl _ _))) (fun hH => ?_)
                refine wpAnyH_take (i := 0) (v := ?v0z) rfl (by kernel_rfl) (by kernel_rfl) (by kernel_rfl) (fun _ _ _ h => h) (Or.inl ⟨by kernel_rfl, ?y0z⟩) (by assumption) ?_; case y0z => (intro w' hS; obtain ⟨s0, s1, s2, s3, s4, s5, s6, s7, s8⟩ := hS; go_simp; try with_reducible rfl)
                simp only [Act.put, List.setIfInBounds_toArray, List.set_cons_zero, List.set_cons_succ]
                refine wpAnyH_take (i := 1) (v := ?v1z) rfl (by kernel_rfl) (by kernel_rfl) (by kernel_rfl) (fun _ _ _ h => h) (Or.inl ⟨by kernel_rfl, ?y1z⟩) (by assumption) ?_; case y1z => (intro w' hS; obtain ⟨s0, s1, s2, s3, s4, s5, s6, s7, s8⟩ := hS; go_simp; try with_reducible rfl)
                simp only [Act.put, List.setIfInBounds_toArray, List.set_cons_zero, List.set_cons_succ]
                refine wpAnyH_take (i := 2) (v := ?v2z) rfl (by kernel_rfl) (by kernel_rfl) (by kernel_rfl) (fun _ _ _ h => h) (Or.inl ⟨by kernel_rfl, ?y2z⟩) (by assumption) ?_; case y2z => (intro w' hS; obtain ⟨s0, s1, s2, s3, s4, s5, s6, s7, s8⟩ := hS; go_simp; try with_reducible rfl)
                simp only [Act.put, List.setIfInBounds_toArray, List.set_cons_zero, List.set_cons_succ]
                refine wpAnyH_take (i := 3) (v := ?v3z) rfl (by kernel_rfl) (by kernel_rfl) (by kernel_rfl) (fun _ _ _ h => h) (Or.inl ⟨by kernel_rfl, ?y3z⟩) (by assumption) ?_; case y3z => (intro w' hS; obtain ⟨s0, s1, s2, s3, s4, s5, s6, s7, s8⟩ := hS; go_simp; try with_reducible rfl)
                simp only [Act.put, List.setIfInBounds_toArray, List.set_cons_zero, List.set_cons_succ]
                refine wpAnyH_take (i := 4) (v := ?v4z) rfl (by kernel_rfl) (by kernel_rfl) (by kernel_rfl) (fun _ _ _ h => h) (Or.inl ⟨by kernel_rfl, ?y4z⟩) (by assumption) ?_; case y4z => (intro w' hS; obtain ⟨s0, s1, s2, s3, s4, s5, s6, s7, s8⟩ := hS; go_simp; try with_reducible rfl)
                simp only [Act.put, List.setIfInBounds_toArray, List.set_cons_zero, List.set_cons_succ]
                refine wpAnyH_take (i := 5) (v := ?v5z) rfl (by kernel_rfl) (by kernel_rfl) (by kernel_rfl) (fun _ _ _ h => h) (Or.inl ⟨by kernel_rfl, ?y5z⟩) (by assumption) ?_; case y5z => (intro w' hS; obtain ⟨s0, s1, s2, s3, s4, s5, s6, s7, s8⟩ := hS; go_simp; try with_reducible rfl)
                simp only [Act.put, List.setIfInBounds_toArray, List.set_cons_zero, List.set_cons_succ]
                refine wpAnyH_take (i := 6) (v := ?v6z) rfl (by kernel_rfl) (by kernel_rfl) (by kernel_rfl) (fun _ _ _ h => h) (Or.inl ⟨by kernel_rfl, ?y6z⟩) (by assumption) ?_; case y6z => (intro w' hS; obtain ⟨s0, s1, s2, s3, s4, s5, s6, s7, s8⟩ := hS; go_simp; try with_reducible rfl)
                simp only [Act.put, List.setIfInBounds_toArray, List.set_cons_zero, List.set_cons_succ]
                refine wpAnyH_take (i := 7) (v := ?v7z) rfl (by kernel_rfl) (by kernel_rfl) (by kernel_rfl) (fun _ _ _ h => h) (Or.inl ⟨by kernel_rfl, ?y7z⟩) (by assumption) ?_; case y7z => (intro w' hS; obtain ⟨s0, s1, s2, s3, s4, s5, s6, s7, s8⟩ := hS; go_simp; try with_reducible rfl)
                simp only [Act.put, List.setIfInBounds_toArray, List.set_cons_zero, List.set_cons_succ]
                refine wpAnyH_take (i := 8) (v := ?v8z) rfl (by kernel_rfl) (by kernel_rfl) (by kernel_rfl) (fun _ _ _ h => h) (Or.inl ⟨by kernel_rfl, ?y8z⟩) (by assumption) ?_; case y8z => (intro w' hS; obtain ⟨s0, s1, s2, s3, s4, s5, s6, s7, s8⟩ := hS; go_simp; try with_reducible rfl)
                simp only [Act.put, List.setIfInBounds_toArray, List.set_cons_zero, List.set_cons_succ]
                refine wpAnyH_take (i := 9) (v := ?v9z) rfl (by kernel_rfl) (by kernel_rfl) (by kernel_rfl) (fun _ _ _ h => h) (Or.inl ⟨by kernel_rfl, ?y9z⟩) (by assumption) ?_; case y9z => (intro w' hS; obtain ⟨s0, s1, s2, s3, s4, s5, s6, s7, s8⟩ := hS; go_simp; try with_reducible rfl)
                simp only [Act.put, List.setIfInBounds_toArray, List.set_cons_zero, List.set_cons_succ]
                refine wpAnyH_take (i := 10) (v := ?v10z) rfl (by kernel_rfl) (by kernel_rfl) (by kernel_rfl) (fun _ _ _ h => h) (Or.inl ⟨by kernel_rfl, ?y10z⟩) (by assumption) ?_; case y10z => (intro w' hS; obtain ⟨s0, s1, s2, s3, s4, s5, s6, s7, s8⟩ := hS; go_simp; try with_reducible rfl)
                simp only [Act.put, List.setIfInBounds_toArray, List.set_cons_zero, List.set_cons_succ]
                refine wpAnyH_take (i := 11) (v := ?v11z) rfl (by kernel_rfl) (by kernel_rfl) (by kernel_rfl) (fun _ _ _ h => h) (Or.inl ⟨by kernel_rfl, ?y11z⟩) (by assumption) ?_; case y11z => (intro w' hS; obtain ⟨s0, s1, s2, s3, s4, s5, s6, s7, s8⟩ := hS; go_simp; try with_reducible rfl)
                simp only [Act.put, List.setIfInBounds_toArray, List.set_cons_zero, List.set_cons_succ]
                refine wpAnyH_take (i := 12) (v := ?v12z) rfl (by kernel_rfl) (by kernel_rfl) (by kernel_rfl) (fun _ _ _ h => h) (Or.inl ⟨by kernel_rfl, ?y12z⟩) (by assumption) ?_; case y12z => (intro w' hS; obtain ⟨s0, s1, s2, s3, s4, s5, s6, s7, s8⟩ := hS; go_simp; try with_reducible rfl)
                simp only [Act.put, List.setIfInBounds_toArray, List.set_cons_zero, List.set_cons_succ]
                refine wpAnyH_take (i := 13) (v := ?v13z) rfl (by kernel_rfl) (by kernel_rfl) (by kernel_rfl) (fun _ _ _ h => h) (Or.inl ⟨by kernel_rfl, ?y13z⟩) (by assumption) ?_; case y13z => (intro w' hS; obtain ⟨s0, s1, s2, s3, s4, s5, s6, s7, s8⟩ := hS; go_simp; try with_reducible rfl)
                simp only [Act.put, List.setIfInBounds_toArray, List.set_cons_zero, List.set_cons_succ]
                refine wpAnyH_ready (rs := [14]) (by kernel_rfl) (by simp) ?_
                refine AllReadyH.cons rfl (fun K hK => ?_) AllReadyH.nil
                go_simp
                refine (HPL.out _).mono ?_
                rintro e w9 ⟨rfl, hb9⟩
                refine hK.out _ _ (HC0.out _ (Below.next (drew_below (Below.refl _ _)) hb9)) (fun hH9 => ?_)
                clear hK K hH
                try simp only [Act.put, List.setIfInBounds_toArray, List.set_cons_zero, List.set_cons_succ]
                refine wpAnyH_take (i := 15) (v := ?v15z) rfl (by kernel_rfl) (by kernel_rfl) (by kernel_rfl) (fun _ _ _ h => h) (Or.inl ⟨by kernel_rfl, ?y15z⟩) (by assumption) ?_; case y15z => (intro w' hS; obtain ⟨s0, s1, s2, s3, s4, s5, s6, s7, s8⟩ := hS; go_simp; try with_reducible rfl)
                simp only [Act.put, List.setIfInBounds_toArray, List.set_cons_zero, List.set_cons_succ]
                refine wpAnyH_take (i := 16) (v := ?v16z) rfl (by kernel_rfl) (by kernel_rfl) (by kernel_rfl) (fun _ _ _ h => h) (Or.inl ⟨by kernel_rfl, ?y16z⟩) (by assumption) ?_; case y16z => (intro w' hS; obtain ⟨s0, s1, s2, s3, s4, s5, s6, s7, s8⟩ := hS; go_simp; try with_reducible rfl)
                simp only [Act.put, List.setIfInBounds_toArray, List.set_cons_zero, List.set_cons_succ]
                refine wpAnyH_take (i := 17) (v := ?v17z) rfl (by kernel_rfl) (by kernel_rfl) (by kernel_rfl) (fun _ _ _ h => h) (Or.inl ⟨by kernel_rfl, ?y17z⟩) (by assumption) ?_; case y17z => (intro w' hS; obtain ⟨s0, s1, s2, s3, s4, s5, s6, s7, s8⟩ := hS; go_simp; try with_reducible rfl)
                simp only [Act.put, List.setIfInBounds_toArray, List.set_cons_zero, List.set_cons_succ]
                refine wpAnyH_take (i := 18) (v := ?v18z) rfl (by kernel_rfl) (by kernel_rfl) (by kernel_rfl) (fun _ _ _ h => h) (Or.inl ⟨by kernel_rfl, ?y18z⟩) (by assumption) ?_; case y18z => (intro w' hS; obtain ⟨s0, s1, s2, s3, s4, s5, s6, s7, s8⟩ := hS; go_simp; try with_reducible rfl)
                simp only [Act.put, List.setIfInBounds_toArray, List.set_cons_zero, List.set_cons_succ]
                refine wpAnyH_take (i := 19) (v := ?v19z) rfl (by kernel_rfl) (by kernel_rfl) (by kernel_rfl) (fun _ _ _ h => h) (Or.inl ⟨by kernel_rfl, ?y19z⟩) (by assumption) ?_; case y19z => (intro w' hS; obtain ⟨s0, s1, s2, s3, s4, s5, s6, s7, s8⟩ := hS; go_simp; try with_reducible rfl)
                simp only [Act.put, List.setIfInBounds_toArray, List.set_cons_zero, List.set_cons_succ]
                refine wpAnyH_take (i := 20) (v := ?v20z) rfl (by kernel_rfl) (by kernel_rfl) (by kernel_rfl) (fun _ _ _ h => h) (Or.inl ⟨by kernel_rfl, ?y20z⟩) (by assumption) ?_; case y20z => (intro w' hS; obtain ⟨s0, s1, s2, s3, s4, s5, s6, s7, s8⟩ := hS; go_simp; try with_reducible rfl)
                simp only [Act.put, List.setIfInBounds_toArray, List.set_cons_zero, List.set_cons_succ]
                refine wpAnyH_take (i := 21) (v := ?v21z) rfl (by kernel_rfl) (by kernel_rfl) (by kernel_rfl) (fun _ _ _ h => h) (Or.inl ⟨by kernel_rfl, ?y21z⟩) (by assumption) ?_; case y21z => (intro w' hS; obtain ⟨s0, s1, s2, s3, s4, s5, s6, s7, s8⟩ := hS; go_simp; try with_reducible rfl)
                simp only [Act.put, List.setIfInBounds_toArray, List.set_cons_zero, List.set_cons_succ]
                refine wpAnyH_take (i := 22) (v := ?v22z) rfl (by kernel_rfl) (by kernel_rfl) (by kernel_rfl) (fun _ _ _ h => h) (Or.inl ⟨by kernel_rfl, ?y22z⟩) (by assumption) ?_; case y22z => (intro w' hS; obtain ⟨s0, s1, s2, s3, s4, s5, s6, s7, s8⟩ := hS; go_simp; try with_reducible rfl)
                simp only [Act.put, List.setIfInBounds_toArray, List.set_cons_zero, List.set_cons_succ]
                refine wpAnyH_take (i := 23) (v := ?v23z) rfl (by kernel_rfl) (by kernel_rfl) (by kernel_rfl) (fun _ _ _ h => h) (Or.inl ⟨by kernel_rfl, ?y23z⟩) (by assumption) ?_; case y23z => (intro w' hS; obtain ⟨s0, s1, s2, s3, s4, s5, s6, s7, s8⟩ := hS; go_simp; try with_reducible rfl)
                simp only [Act.put, List.setIfInBounds_toArray, List.set_cons_zero, List.set_cons_succ]
                refine wpAnyH_take (i := 24) (v := ?v24z) rfl (by kernel_rfl) (by kernel_rfl) (by kernel_rfl) (fun _ _ _ h => h) (Or.inl ⟨by kernel_rfl, ?y24z⟩) (by assumption) ?_; case y24z => (intro w' hS; obtain ⟨s0, s1, s2, s3, s4, s5, s6, s7, s8⟩ := hS; go_simp; try with_reducible rfl)
                simp only [Act.put, List.setIfInBounds_toArray, List.set_cons_zero, List.set_cons_succ]
                refine wpAnyH_take (i := 25) (v := ?v25z) rfl (by kernel_rfl) (by kernel_rfl) (by kernel_rfl) (fun _ _ _ h => h) (Or.inl ⟨by kernel_rfl, ?y25z⟩) (by assumption) ?_; case y25z => (intro w' hS; obtain ⟨s0, s1, s2, s3, s4, s5, s6, s7, s8⟩ := hS; go_simp; try with_reducible rfl)
                simp only [Act.put, List.setIfInBounds_toArray, List.set_cons_zero, List.set_cons_succ]
                refine wpAnyH_take (i := 26) (v := ?v26z) rfl (by kernel_rfl) (by kernel_rfl) (by kernel_rfl) (fun _ _ _ h => h) (Or.inl ⟨by kernel_rfl, ?y26z⟩) (by assumption) ?_; case y26z => (intro w' hS; obtain ⟨s0, s1, s2, s3, s4, s5, s6, s7, s8⟩ := hS; go_simp; try with_reducible rfl)
                simp only [Act.put, List.setIfInBounds_toArray, List.set_cons_zero, List.set_cons_succ]
                refine wpAnyH_take (i := 27) (v := ?v27z) rfl (by kernel_rfl) (by kernel_rfl) (by kernel_rfl) (fun _ _ _ h => h) (Or.inl ⟨by kernel_rfl, ?y27z⟩) (by assumption) ?_; case y27z => (intro w' hS; obtain ⟨s0, s1, s2, s3, s4, s5, s6, s7, s8⟩ := hS; go_simp; try with_reducible rfl)
                simp only [Act.put, List.setIfInBounds_toArray, List.set_cons_zero, List.set_cons_succ]
                refine wpAnyH_take (i := 28) (v := ?v28z) rfl (by kernel_rfl) (by kernel_rfl) (by kernel_rfl) (fun _ _ _ h => h) (Or.inl ⟨by kernel_rfl, ?y28z⟩) (by assumption) ?_; case y28z => (intro w' hS; obtain ⟨s0, s1, s2, s3, s4, s5, s6, s7, s8⟩ := hS; go_simp; try with_reducible rfl)
                simp only [Act.put, List.setIfInBounds_toArray, List.set_cons_zero, List.set_cons_succ]
                refine wpAnyH_take (i := 29) (v := ?v29z) rfl (by kernel_rfl) (by kernel_rfl) (by kernel_rfl) (fun _ _ _ h => h) (Or.inl ⟨by kernel_rfl, ?y29z⟩) (by assumption) ?_; case y29z => (intro w' hS; obtain ⟨s0, s1, s2, s3, s4, s5, s6, s7, s8⟩ := hS; go_simp; try with_reducible rfl)
                simp only [Act.put, List.setIfInBounds_toArray, List.set_cons_zero, List.set_cons_succ]
                refine wpAnyH_take (i := 30) (v := .bool false) rfl (by kernel_rfl) (by kernel_rfl) (by kernel_rfl) (fun _ _ _ h => h) (Or.inl ⟨by kernel_rfl, ?y30z⟩) (by assumption) ?_; case y30z => (intro w' hS; obtain ⟨s0, s1, s2, s3, s4, s5, s6, s7, s8⟩ := hS; go_simp; try with_reducible rfl)
                simp only [Act.put, List.setIfInBounds_toArray, List.set_cons_zero, List.set_cons_succ]
                refine wpAnyH_take (i := 31) (v := .bool false) rfl (by kernel_rfl) (by kernel_rfl) (by kernel_rfl) (fun _ _ _ h => h) (Or.inl ⟨by kernel_rfl, ?y31z⟩) (by assumption) ?_; case y31z => (intro w' hS; obtain ⟨s0, s1, s2, s3, s4, s5, s6, s7, s8⟩ := hS; go_simp; try with_reducible rfl)
                simp only [Act.put, List.setIfInBounds_toArray, List.set_cons_zero, List.set_cons_succ]
                (refine wpAnyH_take (i := 32) (v := undef) rfl (by kernel_rfl) (by kernel_rfl) (by kernel_rfl) (fun _ _ _ h => h) (Or.inr ⟨by kernel_rfl, rfl⟩) (by assumption) ?_; simp only [Act.put, List.getElem_toArray, List.getElem_cons_zero, List.getElem_cons_succ, List.setIfInBounds_toArray, List.set_cons_zero, List.set_cons_succ])
                (refine wpAnyH_take (i := 33) (v := undef) rfl (by kernel_rfl) (by kernel_rfl) (by kernel_rfl) (fun _ _ _ h => h) (Or.inr ⟨by kernel_rfl, rfl⟩) (by assumption) ?_; simp only [Act.put, List.getElem_toArray, List.getElem_cons_zero, List.getElem_cons_succ, List.setIfInBounds_toArray, List.set_cons_zero, List.set_cons_succ])
                (refine wpAnyH_take (i := 34) (v := undef) rfl (by kernel_rfl) (by kernel_rfl) (by kernel_rfl) (fun _ _ _ h => h) (Or.inr ⟨by kernel_rfl, rfl⟩) (by assumption) ?_; simp only [Act.put, List.getElem_toArray, List.getElem_cons_zero, List.getElem_cons_succ, List.setIfInBounds_toArray, List.set_cons_zero, List.set_cons_succ])
                (refine wpAnyH_take (i := 35) (v := undef) rfl (by kernel_rfl) (by kernel_rfl) (by kernel_rfl) (fun _ _ _ h => h) (Or.inr ⟨by kernel_rfl, rfl⟩) (by assumption) ?_; simp only [Act.put, List.getElem_toArray, List.getElem_cons_zero, List.getElem_cons_succ, List.setIfInBounds_toArray, List.set_cons_zero, List.set_cons_succ])
                (refine wpAnyH_take (i := 36) (v := undef) rfl (by kernel_rfl) (by kernel_rfl) (by kernel_rfl) (fun _ _ _ h => h) (Or.inr ⟨by kernel_rfl, rfl⟩) (by assumption) ?_; simp only [Act.put, List.getElem_toArray, List.getElem_cons_zero, List.getElem_cons_succ, List.setIfInBounds_toArray, List.set_cons_zero, List.set_cons_succ])
                (refine wpAnyH_take (i := 37) (v := undef) rfl (by kernel_rfl) (by kernel_rfl) (by kernel_rfl) (fun _ _ _ h => h) (Or.inr ⟨by kernel_rfl, rfl⟩) (by assumption) ?_; simp only [Act.put, List.getElem_toArray, List.getElem_cons_zero, List.getElem_cons_succ, List.setIfInBounds_toArray, List.set_cons_zero, List.set_cons_succ])
                (refine wpAnyH_take (i := 38) (v := undef) rfl (by kernel_rfl) (by kernel_rfl) (by kernel_rfl) (fun _ _ _ h => h) (Or.inr ⟨by kernel_rfl, rfl⟩) (by assumption) ?_; simp only [Act.put, List.getElem_toArray, List.getElem_cons_zero, List.getElem_cons_succ, List.setIfInBounds_toArray, List.set_cons_zero, List.set_cons_succ])
                (refine wpAnyH_take (i := 39) (v := undef) rfl (by kernel_rfl) (by kernel_rfl) (by kernel_rfl) (fun _ _ _ h => h) (Or.inr ⟨by kernel_rfl, rfl⟩) (by assumption) ?_; simp only [Act.put, List.getElem_toArray, List.getElem_cons_zero, List.getElem_cons_succ, List.setIfInBounds_toArray, List.set_cons_zero, List.set_cons_succ])
                (refine wpAnyH_take (i := 40) (v := undef) rfl (by kernel_rfl) (by kernel_rfl) (by kernel_rfl) (fun _ _ _ h => h) (Or.inr ⟨by kernel_rfl, rfl⟩) (by assumption) ?_; simp only [Act.put, List.getElem_toArray, List.getElem_cons_zero, List.getElem_cons_succ, List.setIfInBounds_toArray, List.set_cons_zero, List.set_cons_succ])
                (refine wpAnyH_take (i := 41) (v := undef) rfl (by kernel_rfl) (by kernel_rfl) (by kernel_rfl) (fun _ _ _ h => h) (Or.inr ⟨by kernel_rfl, rfl⟩) (by assumption) ?_; simp only [Act.put, List.getElem_toArray, List.getElem_cons_zero, List.getElem_cons_succ, List.setIfInBounds_toArray, List.set_cons_zero, List.set_cons_succ])
                refine wpAnyH_take (i := 42) (v := .bool false) rfl (by kernel_rfl) (by kernel_rfl) (by kernel_rfl) (fun _ _ _ h => h) (Or.inl ⟨by kernel_rfl, ?y42z⟩) (by assumption) ?_; case y42z => (intro w' hS; obtain ⟨s0, s1, s2, s3, s4, s5, s6, s7, s8⟩ := hS; go_simp; try with_reducible rfl)
                simp only [Act.put, List.setIfInBounds_toArray, List.set_cons_zero, List.set_cons_succ]
                refine wpAnyH_take (i := 43) (v := .bool false) rfl (by kernel_rfl) (by kernel_rfl) (by kernel_rfl) (fun _ _ _ h => h) (Or.inl ⟨by kernel_rfl, ?y43z⟩) (by assumption) ?_; case y43z => (intro w' hS; obtain ⟨s0, s1, s2, s3, s4, s5, s6, s7, s8⟩ := hS; go_simp; try with_reducible rfl)
                simp only [Act.put, List.setIfInBounds_toArray, List.set_cons_zero, List.set_cons_succ]
                refine wpAnyH_done (by kernel_rfl) ?_ _
                have HB9 : Hid (Below w6.heap.size w6 w9) := Lib.hid (HBR.out.trans ((HBC.out.trans ((Below.next (drew_below (Below.refl _ wc)) hb9).mono HBC.out.size)).mono HBR.out.size))
                clear hb9
                go_wp2_with fail
                go_roundw
                case rel => exact ⟨1, by omega, by go_num, HB9⟩
                case measure => simp [intOf]; omega
              · obtain ⟨i2, rfl⟩ : ∃ i2, j = i2 + 1 := ⟨j - 1, by omega⟩
                simp only [Nat.add_sub_cancel] at hz1
                have hj0' : (0 : Int) < (i2 : Int) + 1 := by omega
                have hj1 : (i2 : Int) + 1 < u.length := by omega
                have hjm2 : IntKind.i64.wrap ((i2 : Int) + 1 - 1) = (i2 : Int) := by
                  rw [show (i2 : Int) + 1 - 1 = (i2 : Int) by omega]
                  exact IntWalk.i64_in _ (by omega)
                have hjm : (i2 : Int) + 1 - 1 = (i2 : Int) := by omega
                generalize txt z.key = Y2 at *
                have HC8 : Hid (∀ W, Below wc.heap.size wc W → (W.cell? ⟨g5, i2 + 1, none⟩ = some (.string Y) ∧ W.cell? ⟨g4, (i2 + 1) * 4, none⟩ = some (.string VK) ∧ W.cell? ⟨g4, (i2 + 1) * 4 + 1, none⟩ = some (.string VV) ∧ W.cell? ⟨g4, (i2 + 1) * 4 + 2, none⟩ = some (.int .u64 (VS : Int)) ∧ W.cell? ⟨g4, (i2 + 1) * 4 + 3, none⟩ = some (.bool VG) ∧ W.cell? ⟨X, 0, none⟩ = some (.string VK) ∧ W.cell? ⟨X, 1, none⟩ = some (.string VV) ∧ W.cell? ⟨X, 2, none⟩ = some (.int .u64 (VS : Int)) ∧ W.cell? ⟨X, 3, none⟩ = some (.bool VG)) ∧ W.cell? ⟨g5, i2, none⟩ = some (.string Y2)) := Lib.hid (fun W hb => by
                  have hbw := HBC.out.trans (hb.mono HBC.out.size)
                  exact ⟨HC9.out W hb, (hbw.cell (p := ⟨g5, i2, none⟩) HG5.out).trans hz1⟩)
                clear hz1 hj0
                go_wp2_with fail
                have hjm3 : IntKind.i64.wrap (i2 : Int) = (i2 : Int) := IntWalk.i64_in _ (by omega)
                have hj6 : i2 < u.length := by omega
                have hj7 : i2 < s.length := by rw [HSL.out]; omega
                have hj2 : (0 : Int) ≤ (i2 : Int) + 1 := by omega
                have hj3 : (0 : Int) ≤ (i2 : Int) := by omega
                have hj4 : (i2 : Int) < u.length := by omega
                have hj5 : ((i2 : Int) + 1).toNat = i2 + 1 := by omega
                go_region_held3 (fun w' => (w'.cell? ⟨g5, i2 + 1, none⟩ = some (.string Y) ∧ w'.cell? ⟨g4, (i2 + 1) * 4, none⟩ = some (.string VK) ∧ w'.cell? ⟨g4, (i2 + 1) * 4 + 1, none⟩ = some (.string VV) ∧ w'.cell? ⟨g4, (i2 + 1) * 4 + 2, none⟩ = some (.int .u64 (VS : Int)) ∧ w'.cell? ⟨g4, (i2 + 1) * 4 + 3, none⟩ = some (.bool VG) ∧ w'.cell? ⟨X, 0, none⟩ = some (.string VK) ∧ w'.cell? ⟨X, 1, none⟩ = some (.string VV) ∧ w'.cell? ⟨X, 2, none⟩ = some (.int .u64 (VS : Int)) ∧ w'.cell? ⟨X, 3, none⟩ = some (.bool VG)) ∧ w'.cell? ⟨g5, i2, none⟩ = some (.string Y2))
                  (first | exact HC8.out _ (Below.next (drew_below (Below.refl _ _)) hb9) | exact HC8.out _ (drew_below (Below.refl _ _)) | exact HC8.out _ (Below.refl _ _))
                  ((go_at_call 23; (refine (HPL.out _).mono ?_); rintro e w9 ⟨rfl, hb9⟩))
                clear hjm hjm2 hjm3 hj5 hj6 hj7 hj2 hj3 hj4
                have HB9 : Hid (Below w6.heap.size w6 w9) := Lib.hid (HBR.out.trans ((HBC.out.trans ((Below.next (drew_below (Below.refl _ wc)) hb9).mono HBC.out.size)).mono HBR.out.size))
                clear hb9
                go_wp2_with fail
                go_roundw
                case rel => exact ⟨i2 + 1 + 1, by omega, by go_num, HB9⟩
                case measure => simp [intOf]; omega
          · obtain rfl : j = u.length := by omega
            go_wp2_with fail
            refine (HAW.out _).mono ?_
            rintro e w9 ⟨rfl, hb9⟩
            have B9 : Hid (Below w.heap.size w w9) := Lib.hid (Below.next (B2.out.trans ((B6.out.trans (HBR.out.mono B6.out.size)).mono B2.out.size)) hb9)
            clear hb9
            go_wp2_with fail
            go_ret
            exact ⟨rfl, B9.out⟩
end Go.Proofs.Ytmdnmabbphnhaaa.Mm
