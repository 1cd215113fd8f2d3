/- The document's Least, over rows that lie in memory. -/
import Derived.Test.YtghfgffgcknbmaaSkU
namespace Go.Proofs.Ytghfgffgcknbmaa.Sk
open Go Go.RowKit
set_option linter.unusedVariables false

def itCells (y : It ByteArray) : List Value := [.string (txt y.key), .string y.val, .int .i64 (y.h : Int)]
theorem itCells_length (y : It ByteArray) : (itCells y).length = 3 := rfl
/-- The document's row. -/
def Items (base : Nat) (w : World) (v : Value) (r : List (It ByteArray)) : Prop := w.ownsRow base 45 3 v r.length (r.flatMap itCells)
theorem Items.below {base : Nat} {w w' : World} {v : Value} {r : List (It ByteArray)} (h : Items base w v r) (hb : Below w.heap.size w w') : Items base w' v r := ownsRow_below h hb
theorem Items.get {base : Nat} {w : World} {ao : Option Addr} {m cap : Nat} {r : List (It ByteArray)} (h : Items base w (.slice ao m cap) r) {i : Nat} {y : It ByteArray} (hi : r[i]? = some y) : ∃ g, ao = some ⟨g, 0, none⟩ ∧ g < w.heap.size ∧
    w.cell? ⟨g, i * 3, none⟩ = some (.string (txt y.key)) ∧ w.cell? ⟨g, i * 3 + 1, none⟩ = some (.string y.val) ∧ w.cell? ⟨g, i * 3 + 2, none⟩ = some (.int .i64 (y.h : Int)) := by
  obtain ⟨g, e, _, hg, c0⟩ := (row_here h).2 (i * 3 + 0) (.string (txt y.key)) (by rw [flat_get itCells_length r i 0 y hi (by omega)]; rfl)
  obtain ⟨g1, e1, _, _, c1⟩ := (row_here h).2 (i * 3 + 1) (.string y.val) (by rw [flat_get itCells_length r i 1 y hi (by omega)]; rfl)
  obtain ⟨g2, e2, _, _, c2⟩ := (row_here h).2 (i * 3 + 2) (.int .i64 (y.h : Int)) (by rw [flat_get itCells_length r i 2 y hi (by omega)]; rfl)
  rw [e] at e1 e2
  obtain rfl : g = g1 := by simpa using e1
  obtain rfl : g = g2 := by simpa using e2
  exact ⟨g, e, hg, c0, c1, c2⟩
theorem better_out {K : Str} {above : Bool} {b : Option (It ByteArray)} {y : It ByteArray} (h : ok K above y = false) : better K above b y = b := by unfold better; rw [h]; rfl
theorem better_none {K : Str} {above : Bool} {y : It ByteArray} (h : ok K above y = true) : better K above none y = some y := by unfold better; rw [h]; rfl
theorem better_less {K : Str} {above : Bool} {b y : It ByteArray} (h : ok K above y = true) (hb : bytesBefore y.key b.key = true) : better K above (some b) y = some y := by unfold better; rw [h, if_pos rfl]; dsimp only; rw [hb, if_pos rfl]
theorem better_more {K : Str} {above : Bool} {b y : It ByteArray} (h : ok K above y = true) (hb : bytesBefore y.key b.key = false) : better K above (some b) y = some b := by unfold better; rw [h, if_pos rfl]; dsimp only; rw [hb]; rfl
def leastV : Option (It ByteArray) → Value
  | none => .tuple #[.agg #[.string ⟨#[]⟩, .string ⟨#[]⟩, .int .i64 0], .bool false]
  | some y => .tuple #[.agg #[.string (txt y.key), .string y.val, .int .i64 (y.h : Int)], .bool true]
/-- Which one is the least so far, as an int says it. -/
def At (r : List (It ByteArray)) (B : Int) : Option (It ByteArray) → Prop
  | none => B = -1
  | some y => ∃ j : Nat, B = (j : Int) ∧ r[j]? = some y

theorem info_item : (Try.prog.info? 45).map (·.size) = some 3 := by kernel_rfl
/-- A box of the document's Item, filled cell by cell. -/
theorem item_box {w : World} {b : Nat} {c0 c1 c2 : Value} (v0 v1 v2 : Value) (h : w.heap[b]? = some (.cells #[c0, c1, c2] 45 (0, 0))) :
    (loadVar 45 ⟨b, 0, none⟩).run Try.prog (((w.setCell ⟨b, 0, none⟩ v0).setCell ⟨b, 1, none⟩ v1).setCell ⟨b, 2, none⟩ v2) = .ok (.agg #[v0, v1, v2]) (((w.setCell ⟨b, 0, none⟩ v0).setCell ⟨b, 1, none⟩ v1).setCell ⟨b, 2, none⟩ v2) := by
  have h1 := heap_setCell_same w b 0 _ _ v0 h
  have h2 := heap_setCell_same _ b 1 _ _ v1 h1
  have h3 := heap_setCell_same _ b 2 _ _ v2 h2
  exact run_loadVar_row _ b 45 _ _ (0, 0) _ h3 Try.underlying45 rfl info_item

set_option maxHeartbeats 2000000 in
set_option maxRecDepth 100000 in
theorem least_any {base : Nat} {w : World} {ao : Option Addr} {m cap : Nat} {r : List (It ByteArray)} (h : Items base w (.slice ao m cap) r) (K : ByteArray) (above : Bool) (hK : K.size ≤ 1000000) (hr : ∀ y ∈ r, y.key.length ≤ 1000000) (hm : r.length ≤ 100000) :
    Calls Try.prog 18 #[.slice ao m cap, .string K, .bool above] w fun e w' => e = .returned (leastV (least K.data.toList above r)) ∧ Below w.heap.size w w' := by
  obtain rfl : m = r.length := (row_here h).1
  have HI := Lib.hid h
  have HR := Lib.hid hr
  have hmi : (r.length : Int) ≤ 100000 := by omega
  have H0 : Hid (least K.data.toList above r = (r.drop 0).foldl (better K.data.toList above) none) := Lib.hid rfl
  generalize hF : least K.data.toList above r = F at *
  clear h hr hF
  have hb0 : Below w.heap.size w (w.alloc (.cells #[.string ⟨#[]⟩, .string ⟨#[]⟩, .int .i64 0] 45)) := (Below.refl _ _).alloc (Nat.le_refl _) _
  have B0 := Lib.hid hb0
  have cb : (w.alloc (.cells #[.string ⟨#[]⟩, .string ⟨#[]⟩, .int .i64 0] 45)).heap[w.heap.size]? = some (.cells #[.string ⟨#[]⟩, .string ⟨#[]⟩, .int .i64 0] 45 (0, 0)) := heap_alloc_new w _
  have CB := Lib.hid cb
  obtain ⟨W0, hW0⟩ : ∃ W0, W0 = w.alloc (.cells #[.string ⟨#[]⟩, .string ⟨#[]⟩, .int .i64 0] 45) := ⟨_, rfl⟩
  rw [← hW0] at B0 CB
  have HW0 := Lib.hid hW0
  clear hb0 cb hW0
  go_enter Try.func18, Try.ntmps18
  go_wp2_with fail
  go_loopw [8, 9] (fun b i wr => ∃ (k : Nat) (B : Int) (o : Option (It ByteArray)), k ≤ r.length ∧ i = .int .i64 (k : Int) ∧ b = .int .i64 B ∧ Hid (At r B o) ∧ Hid (F = (r.drop k).foldl (better K.data.toList above) o) ∧ Hid (Below W0.heap.size W0 wr)) (fun _ i _ => r.length - (intOf i).toNat)
  case atStart => exact ⟨0, -1, none, Nat.zero_le _, rfl, rfl, Lib.hid rfl, H0, Lib.hid (by rw [HW0.out]; exact Below.refl _ _)⟩
  case round =>
    obtain ⟨k, B, o, hk, rfl, rfl, HA, HF, HB⟩ := hrel
    by_cases hkr : k < r.length
    · obtain ⟨y, hy⟩ : ∃ y, r[k]? = some y := ⟨r[k], List.getElem?_eq_getElem _⟩
      have hki : (k : Int) < r.length := by omega
      have BB := Lib.hid (B0.out.trans (HB.out.mono B0.out.size))
      have HIR := Lib.hid (HI.out.below BB.out)
      obtain ⟨g, rfl, hg, c0, c1, c2⟩ := HIR.out.get hy
      have hys := HR.out y (List.mem_of_getElem? hy)
      have hdrop : r.drop k = y :: r.drop (k + 1) := by
        obtain ⟨h1, h2⟩ := List.getElem?_eq_some_iff.1 hy
        rw [List.drop_eq_getElem_cons h1, h2]
      have HF2 : Hid (F = (r.drop (k + 1)).foldl (better K.data.toList above) (better K.data.toList above o y)) := Lib.hid (by rw [HF.out, hdrop]; rfl)
      have LS := Lib.hid (fun W => less_any (txt y.key) K W (by rw [txt_size]; omega) hK)
      have HY := Lib.hid hy
      clear hdrop hy HF
      by_cases hbef : bytesBefore y.key K.data.toList = true
      · have HO : Hid (better K.data.toList above o y = o) := Lib.hid (better_out (by unfold ok; rw [hbef]; rfl))
        rw [show bytesBefore (txt y.key).data.toList K.data.toList = true from hbef] at LS
        clear hbef
        go_wp2_with fail
        refine (LS.out _).mono ?_
        rintro e w2 ⟨rfl, q2, rfl⟩
        go_wp2_with fail
        go_roundw
        case rel => exact ⟨k + 1, B, o, by omega, by go_num, rfl, HA, by rw [HO.out] at HF2; exact HF2, Lib.hid (below_drewN HB.out _)⟩
        case measure => simp [intOf]; omega
      · have hbf : bytesBefore y.key K.data.toList = false := by simpa using hbef
        rw [show bytesBefore (txt y.key).data.toList K.data.toList = false from hbf] at LS
        by_cases hout : above = true ∧ y.key = K.data.toList
        · obtain ⟨rfl, hk2⟩ := hout
          have HO : Hid (better K.data.toList true o y = o) := Lib.hid (better_out (by unfold ok; rw [hbf]; simp [hk2]))
          have hkk : txt y.key = K := by rw [hk2]; exact txt_key K
          rw [hkk] at c0 LS
          clear hbef hbf hk2 hkk
          go_wp2_with fail
          refine (LS.out _).mono ?_
          rintro e w2 ⟨rfl, q2, rfl⟩
          go_wp2_with fail
          go_roundw
          case rel => exact ⟨k + 1, B, o, by omega, by go_num, rfl, HA, by rw [HO.out] at HF2; exact HF2, Lib.hid (below_drewN HB.out _)⟩
          case measure => simp [intOf]; omega
        · have HOK : Hid (ok K.data.toList above y = true) := Lib.hid (by
            unfold ok
            rw [hbf]
            cases above with
            | false => rfl
            | true => simp; exact fun e => hout ⟨rfl, e⟩)
          have hne : above = true → ((txt y.key).toList == K.toList) = false := fun ha => by
            rw [txt_list, ByteArray.toList_eq]
            exact beq_false_of_ne fun e => hout ⟨ha, e⟩
          cases o with
          | none =>
            obtain rfl : B = -1 := HA.out
            rw [better_none HOK.out] at HF2
            cases above with
            | false =>
              clear hbef hbf hout hne
              go_wp2_with fail
              refine (LS.out _).mono ?_
              rintro e w2 ⟨rfl, q2, rfl⟩
              go_wp2_with fail
              go_quiet (fail)
              go_wp2_with fail
              go_roundw
              case rel => exact ⟨k + 1, (k : Int), some y, by omega, by go_num, rfl, Lib.hid ⟨k, rfl, HY.out⟩, HF2, Lib.hid (below_drewN HB.out _)⟩
              case measure => simp [intOf]; omega
            | true =>
              have hne2 := hne rfl
              clear hbef hbf hout hne
              go_wp2_with fail
              refine (LS.out _).mono ?_
              rintro e w2 ⟨rfl, q2, rfl⟩
              go_wp2_with fail
              go_quiet (fail)
              go_wp2_with fail
              go_roundw
              case rel => exact ⟨k + 1, (k : Int), some y, by omega, by go_num, rfl, Lib.hid ⟨k, rfl, HY.out⟩, HF2, Lib.hid (below_drewN HB.out _)⟩
              case measure => simp [intOf]; omega
          | some b =>
            obtain ⟨j, rfl, hj⟩ := HA.out
            obtain ⟨g', e', _, d0, _, _⟩ := HIR.out.get hj
            obtain rfl : g = g' := by simpa using e'
            have hjl : (j : Int) < r.length := by have := (List.getElem?_eq_some_iff.1 hj).1; omega
            have hbs := HR.out b (List.mem_of_getElem? hj)
            have LS2 := Lib.hid (fun W => less_any (txt y.key) (txt b.key) W (by rw [txt_size]; omega) (by rw [txt_size]; omega))
            have hj0 : ¬ (j : Int) < 0 := by omega
            have hj1 : decide ((j : Int) < 0) = false := decide_eq_false hj0
            have HJ := Lib.hid hj
            clear hj e'
            cases hb : bytesBefore y.key b.key with
            | true =>
              rw [better_less HOK.out hb] at HF2
              rw [show bytesBefore (txt y.key).data.toList (txt b.key).data.toList = true from hb] at LS2
              cases above with
              | false =>
                clear hbef hbf hout hne hb
                go_wp2_with fail
                refine (LS.out _).mono ?_
                rintro e wq ⟨rfl, q2, hwq⟩
                have BQ : Hid (Below W0.heap.size W0 wq) := Lib.hid (by rw [hwq]; exact below_drewN HB.out _)
                have cq0 : wq.cell? ⟨g, k * 3, none⟩ = some (.string (txt y.key)) := by rw [hwq]; exact c0
                have dq0 : wq.cell? ⟨g, j * 3, none⟩ = some (.string (txt b.key)) := by rw [hwq]; exact d0
                clear hwq c0 d0 c1 c2
                go_wp2_with fail
                go_quiet (first | (go_at_call 45; refine (LS2.out _).mono ?_; rintro e wz ⟨rfl, q3, rfl⟩; first | exact ⟨rfl, _, rfl⟩ | exact ⟨rfl, _, World.drewN_drewN _ _ _⟩))
                go_wp2_with fail
                go_roundw
                case rel => exact ⟨k + 1, (k : Int), some y, by omega, by go_num, rfl, Lib.hid ⟨k, rfl, HY.out⟩, HF2, Lib.hid (below_drewN BQ.out _)⟩
                case measure => simp [intOf]; omega
              | true =>
                have hne2 := hne rfl
                clear hbef hbf hout hne hb
                go_wp2_with fail
                refine (LS.out _).mono ?_
                rintro e wq ⟨rfl, q2, hwq⟩
                have BQ : Hid (Below W0.heap.size W0 wq) := Lib.hid (by rw [hwq]; exact below_drewN HB.out _)
                have cq0 : wq.cell? ⟨g, k * 3, none⟩ = some (.string (txt y.key)) := by rw [hwq]; exact c0
                have dq0 : wq.cell? ⟨g, j * 3, none⟩ = some (.string (txt b.key)) := by rw [hwq]; exact d0
                clear hwq c0 d0 c1 c2
                go_wp2_with fail
                go_quiet (first | (go_at_call 45; refine (LS2.out _).mono ?_; rintro e wz ⟨rfl, q3, rfl⟩; first | exact ⟨rfl, _, rfl⟩ | exact ⟨rfl, _, World.drewN_drewN _ _ _⟩))
                go_wp2_with fail
                go_roundw
                case rel => exact ⟨k + 1, (k : Int), some y, by omega, by go_num, rfl, Lib.hid ⟨k, rfl, HY.out⟩, HF2, Lib.hid (below_drewN BQ.out _)⟩
                case measure => simp [intOf]; omega
            | false =>
              rw [better_more HOK.out hb] at HF2
              rw [show bytesBefore (txt y.key).data.toList (txt b.key).data.toList = false from hb] at LS2
              cases above with
              | false =>
                clear hbef hbf hout hne hb
                go_wp2_with fail
                refine (LS.out _).mono ?_
                rintro e wq ⟨rfl, q2, hwq⟩
                have BQ : Hid (Below W0.heap.size W0 wq) := Lib.hid (by rw [hwq]; exact below_drewN HB.out _)
                have cq0 : wq.cell? ⟨g, k * 3, none⟩ = some (.string (txt y.key)) := by rw [hwq]; exact c0
                have dq0 : wq.cell? ⟨g, j * 3, none⟩ = some (.string (txt b.key)) := by rw [hwq]; exact d0
                clear hwq c0 d0 c1 c2
                go_wp2_with fail
                go_quiet (first | (go_at_call 45; refine (LS2.out _).mono ?_; rintro e wz ⟨rfl, q3, rfl⟩; first | exact ⟨rfl, _, rfl⟩ | exact ⟨rfl, _, World.drewN_drewN _ _ _⟩))
                go_wp2_with fail
                go_roundw
                case rel => exact ⟨k + 1, (j : Int), some b, by omega, by go_num, rfl, Lib.hid ⟨j, rfl, HJ.out⟩, HF2, Lib.hid (below_drewN BQ.out _)⟩
                case measure => simp [intOf]; omega
              | true =>
                have hne2 := hne rfl
                clear hbef hbf hout hne hb
                go_wp2_with fail
                refine (LS.out _).mono ?_
                rintro e wq ⟨rfl, q2, hwq⟩
                have BQ : Hid (Below W0.heap.size W0 wq) := Lib.hid (by rw [hwq]; exact below_drewN HB.out _)
                have cq0 : wq.cell? ⟨g, k * 3, none⟩ = some (.string (txt y.key)) := by rw [hwq]; exact c0
                have dq0 : wq.cell? ⟨g, j * 3, none⟩ = some (.string (txt b.key)) := by rw [hwq]; exact d0
                clear hwq c0 d0 c1 c2
                go_wp2_with fail
                go_quiet (first | (go_at_call 45; refine (LS2.out _).mono ?_; rintro e wz ⟨rfl, q3, rfl⟩; first | exact ⟨rfl, _, rfl⟩ | exact ⟨rfl, _, World.drewN_drewN _ _ _⟩))
                go_wp2_with fail
                go_roundw
                case rel => exact ⟨k + 1, (j : Int), some b, by omega, by go_num, rfl, Lib.hid ⟨j, rfl, HJ.out⟩, HF2, Lib.hid (below_drewN BQ.out _)⟩
                case measure => simp [intOf]; omega
    · obtain rfl : k = r.length := by omega
      rw [List.drop_length] at HF
      have hcb := (HB.out.block w.heap.size (heap_lt CB.out)).trans CB.out
      have e0 := cell_of (k := 0) hcb
      have e1 := cell_of (k := 1) hcb
      have e2 := cell_of (k := 2) hcb
      have g0 := unfrozen_of hcb 0
      have g1 := unfrozen_of hcb 1
      have g2 := unfrozen_of hcb 2
      simp at e0 e1 e2
      have BF : Hid (Below w.heap.size w wr) := Lib.hid ((by
        have h0 : Below w.heap.size w W0 := by rw [HW0.out]; exact (Below.refl _ _).alloc (Nat.le_refl _) _
        exact h0.trans (HB.out.mono h0.size)))
      cases o with
      | none =>
        obtain rfl : B = -1 := HA.out
        have hFF : F = none := HF.out
        subst hFF
        have HCB := Lib.hid hcb
        clear hcb
        go_wp2_with fail
        have hl := item_box (.string ⟨#[]⟩) (.string ⟨#[]⟩) (.int .i64 0) HCB.out
        refine bodyPost_ret (v := leastV .none) ?_ rfl ⟨rfl, ?_⟩
        · simp [results, Try.results18, asAddr, hl, leastV]
        · have hs := BF.out
          exact ((hs.setCell (Nat.le_refl _) _).setCell (Nat.le_refl _) _).setCell (Nat.le_refl _) _
      | some b =>
        obtain ⟨j, rfl, hj⟩ := HA.out
        have hFF : F = some b := HF.out
        subst hFF
        have HIR := Lib.hid (HI.out.below (B0.out.trans (HB.out.mono B0.out.size)))
        obtain ⟨g, rfl, hg, c0, c1, c2⟩ := HIR.out.get hj
        have hjl : (j : Int) < r.length := by have := (List.getElem?_eq_some_iff.1 hj).1; omega
        have hj0 : ¬ (j : Int) < 0 := by omega
        have HCB := Lib.hid hcb
        clear hcb hj
        go_wp2_with fail
        have hl := item_box (.string (txt b.key)) (.string b.val) (.int .i64 (b.h : Int)) HCB.out
        refine bodyPost_ret (v := leastV (.some b)) ?_ rfl ⟨rfl, ?_⟩
        · simp [results, Try.results18, asAddr, hl, leastV]
        · have hs := BF.out
          exact ((hs.setCell (Nat.le_refl _) _).setCell (Nat.le_refl _) _).setCell (Nat.le_refl _) _

end Go.Proofs.Ytghfgffgcknbmaa.Sk
