/- The walk of FrameLong. -/
import Derived.Test.YtalmkgjinabceaaDoorFrE
import Derived.Deep.OwnRows
import Derived.Deep.RegionLaw
import Derived.StillTailTactics
import Derived.Deep.RegionHeld3
namespace Go.Proofs.YtalmkgjinabceaaDoor
open Go.RowKit

/-- The bytes of the long record. -/
def lg (i : Nat) : UInt8 := UInt8.ofNat (i % 251)
def lgV (i : Nat) : Value := .int .u8 ((lg i).toNat : Int)
theorem lgV_is (i : Nat) : lgV i = .int .u8 ((i : Int) % 251) := by
  unfold lgV lg
  rw [Cr.toNat_ofNat]
  congr 1
  omega
/-- A row that is laid as far as that. -/
def part (k i : Nat) : Value := if i < k then lgV i else .int .u8 0

/-- The text of a row's first bytes. -/
theorem row_bytes {w : World} {B n : Nat} (h : w.rowIs B 5 n lgV) (k : Nat) (hk : k ≤ n) (cap : Nat) :
    (convert 30 9 (.slice (some ⟨B, 0, none⟩) k cap)).run Tryd.prog w = .ok (.string ⟨((List.range k).map lg).toArray⟩) w := by
  have e : ((List.range k).map lg).length = k := by rw [List.length_map, List.length_range]
  have := run_convert_bytes_back (P := Tryd.prog) w 30 9 5 ⟨B, 0, none⟩ cap ((List.range k).map lg) Tryd.underlying30 Tryd.underlying5 Tryd.underlying9 (fun j hj => by
    rw [e] at hj
    have ea : (⟨B, 0, none⟩ : Addr).add j = ⟨B, j, none⟩ := by simp [Addr.add]; exact fun h => h.symm
    rw [ea, h.cell (i := j) (by omega)]
    simp only [List.getElem_map, List.getElem_range]
    rfl)
  rw [e] at this
  exact this
/-- 'b[:q]'. -/
theorem slice_row (w : World) (B n c q : Nat) (hq : q ≤ c) : (Instr.slice 30 (.slice (some ⟨B, 0, none⟩) n c) none (some (.int .i64 (q : Int))) none).run Tryd.prog w = .ok (.slice (some ⟨B, 0, none⟩) q c) w := by
  obtain ⟨i0, hi, hz0, hz1, hz2⟩ := info_parts info_u8
  rw [run_slice_h w 30 (some ⟨B, 0, none⟩) n c (by kernel_rfl) .i64 q (by omega) (by omega)]
  have he : Tryd.prog.elem 30 = 5 := by kernel_rfl
  rw [he]
  have hs : (sizeOf 5).run Tryd.prog w = .ok 1 w := by
    simp [sizeOf, typeInfo, hi, hz1]
  rw [hs]
  simp only [Result.andThen, sliced, Int.toNat_natCast, Nat.sub_zero]
  congr 2
  split
  · rfl
  · simp [Addr.add]
theorem long_size (k : Nat) : (⟨((List.range k).map lg).toArray⟩ : ByteArray).size = k := by
  show (((List.range k).map lg).toArray).size = k
  rw [List.size_toArray, List.length_map, List.length_range]
theorem rda_whole {ss : List ByteArray} (h : ∀ s ∈ ss, s.size ≤ 524288) : Cr.rda (Cr.frames ss) = (ss, (Cr.frames ss).length) := by
  have := Cr.rda_frames [] ss h
  rw [List.append_nil, rda_nil] at this
  simpa using this
theorem two_of {x y : ByteArray} {p : ByteArray → Prop} (hx : p x) (hy : p y) : ∀ s ∈ [x, y], p s := by
  intro s hs
  simp only [List.mem_cons, List.not_mem_nil, or_false] at hs
  rcases hs with rfl | rfl <;> assumption
theorem rowIs_below {w w' : World} {B n : Nat} {t : TypeId} {f : Nat → Value} (h : w.rowIs B t n f) (hb : Below w.heap.size w w') : w'.rowIs B t n f := h.of_block (hb.block B h.lt)

set_option maxRecDepth 100000 in
set_option maxHeartbeats 4000000 in
theorem long_walk (w : World) (hT : Tab w) :
    Calls Tryd.prog 4 #[] w (Gives (.bool true) w) := by
  have HT := Lib.hid hT; clear hT
  obtain ⟨N, hN⟩ : ∃ N : Nat, N = 524289 := ⟨_, rfl⟩
  obtain ⟨M, hM⟩ : ∃ M : Nat, M = 524288 := ⟨_, rfl⟩
  have hNI : (N : Int) = 524289 := by omega
  have hMI : (M : Int) = 524288 := by omega
  have HN := Lib.hid hN; have HM := Lib.hid hM
  have hmk : (Instr.makeSlice 30 (.int .i64 524289) (.int .i64 524289)).run Tryd.prog w = .ok (.slice (some ⟨w.heap.size, 0, none⟩) N N) (w.alloc (.cells (madeCells #[.int .u8 0] N) 5)) := by
    have := run_make_row' (P := Tryd.prog) 30 5 (.int .u8 0) 1 Tryd.underlying30 info_u8 rfl .i64 .i64 N (by omega) (by omega) w
    rw [hNI] at this
    exact this
  have hsl : ∀ W : World, (Instr.slice 30 (.slice (some ⟨w.heap.size, 0, none⟩) N N) none (some (.int .i64 524288)) none).run Tryd.prog W = .ok (.slice (some ⟨w.heap.size, 0, none⟩) M N) W := fun W => by
    have := slice_row W w.heap.size N N M (by omega)
    rw [hMI] at this
    exact this
  clear hN hM hMI
  have HROW : Hid ((w.alloc (.cells (madeCells #[.int .u8 0] N) 5)).rowIs w.heap.size 5 N (fun _ => .int .u8 0)) := World.rowIs_made w _ _ _
  have HB1 : Hid (Below w.heap.size w (w.alloc (.cells (madeCells #[.int .u8 0] N) 5))) := (Below.refl _ _).alloc (Nat.le_refl _) _
  generalize w.alloc (.cells (madeCells #[.int .u8 0] N) 5) = w1 at *
  go_enter Tryd.func4, Tryd.ntmps4
  go_wp2_with fail
  clear hmk
  go_loopw [2] (fun i wr => ∃ k : Nat, (k : Int) ≤ 524289 ∧ i = .int .i64 k ∧ Hid (wr.rowIs w.heap.size 5 N (part k)) ∧ Hid (Below w.heap.size w wr)) (fun i _ => (524289 - intOf i).toNat)
  case atStart => exact ⟨0, by omega, rfl, Lib.hid (HROW.out.congr (fun i _ => by unfold part; rw [if_neg (by omega)])), HB1⟩
  case round =>
    obtain ⟨k, hk, rfl, HR, HB⟩ := hrel
    clear HROW HB1
    by_cases hlt : (k : Int) < 524289
    · have hc0 : wr.cell? ⟨w.heap.size, k, none⟩ = some (.int .u8 0) := by
        have := HR.out.cell (i := k) (by omega)
        unfold part at this
        rw [if_neg (by omega)] at this
        exact this
      have hf0 : wr.frozen? ⟨w.heap.size, k, none⟩ = false := HR.out.frozen k
      have hlt2 : (k : Int) % 251 < 256 := by omega
      have hge2 : 0 ≤ (k : Int) % 251 := by omega
      have HN : Hid ((wr.setCell ⟨w.heap.size, k, none⟩ (.int .u8 ((k : Int) % 251))).rowIs w.heap.size 5 N (part (k + 1))) := by
        rw [← lgV_is k]
        refine (HR.out.set k (lgV k)).congr (fun i hi => ?_)
        unfold part
        by_cases e : i = k
        · rw [if_pos e, if_pos (by omega), e]
        · rw [if_neg e]
          by_cases h : i < k
          · rw [if_pos h, if_pos (by omega)]
          · rw [if_neg h, if_neg (by omega)]
      go_wp2_with fail
      go_roundw
      case rel => exact ⟨k + 1, by omega, by go_num, HN, Lib.hid (HB.out.setCell (p := ⟨w.heap.size, k, none⟩) (Nat.le_refl _) _)⟩
      case measure => simp [intOf]; omega
    · obtain rfl : N = k := by omega
      have HF : Hid (wr.rowIs w.heap.size 5 N lgV) := Lib.hid (HR.out.congr (fun i hi => by unfold part; rw [if_pos (by omega)]))
      clear HR hlt hk
      obtain ⟨P, hPs, hcvP⟩ : ∃ P : ByteArray, P.size = 524288 ∧ ∀ W : World, W.rowIs w.heap.size 5 N lgV → (convert 30 9 (.slice (some ⟨w.heap.size, 0, none⟩) M N)).run Tryd.prog W = .ok (.string P) W :=
        ⟨_, (long_size M).trans HM.out, fun W h => row_bytes h M (by have := HN.out; have := HM.out; omega) N⟩
      obtain ⟨Q, hQs, hcvQ⟩ : ∃ P : ByteArray, P.size = 524289 ∧ ∀ W : World, W.rowIs w.heap.size 5 N lgV → (convert 30 9 (.slice (some ⟨w.heap.size, 0, none⟩) N N)).run Tryd.prog W = .ok (.string P) W :=
        ⟨_, (long_size N).trans HN.out, fun W h => row_bytes h N (Nat.le_refl _) N⟩
      have HCP := Lib.hid hcvP; have HCQ := Lib.hid hcvQ
      have HSP : Hid (∀ s ∈ [(⟨#[120]⟩ : ByteArray), P], s.size ≤ 524288) := Lib.hid (two_of (p := fun s => s.size ≤ 524288) (by decide) (by omega))
      have HSQ : Hid (∀ s ∈ [(⟨#[120]⟩ : ByteArray), Q], s.size ≤ 9223372036854775807) := Lib.hid (two_of (p := fun s => s.size ≤ 9223372036854775807) (by decide) (by omega))
      have HWQ : Hid (wrV [⟨#[120]⟩, Q] = .tuple #[.string ⟨#[]⟩, .int .i64 3]) := Lib.hid (wrV_long (s := Q) (by simp) (by omega))
      obtain ⟨S, HWP, HRD, HSS⟩ : ∃ S : ByteArray, Hid (wrV [⟨#[120]⟩, P] = .tuple #[.string S, .int .i64 0]) ∧ Hid (Cr.rda S.data.toList = ([⟨#[120]⟩, P], S.size)) ∧ Hid (S.size ≤ 1000000000) := by
        refine ⟨_, Lib.hid (wrV_ok HSP.out), Lib.hid (rda_whole HSP.out), ?_⟩
        have h1 := cellsS_le HSP.out
        have h2 := frames_length [⟨#[120]⟩, P]
        have h3 : (⟨(Cr.frames [⟨#[120]⟩, P]).toArray⟩ : ByteArray).size = (Cr.frames [⟨#[120]⟩, P]).length := rfl
        rw [h3, h2]
        simp only [List.length_cons, List.length_nil] at h1
        exact Lib.hid (by omega)
      clear hPs hQs hcvP hcvQ
      have hcv := HCP.out wr HF.out
      go_wp2_with fail
      refine (write_any _ _ _ [⟨#[120]⟩, P] _ (sees_two wr ⟨#[120]⟩ P _ _) ((HT.out.below HB.out).alloc _) (fun s hs => Nat.le_trans (HSP.out s hs) (by decide)) (by decide)).mono ?_
      rintro e w2 ⟨rfl, hb2⟩
      rw [HWP.out]
      have HB2 : Hid (Below w.heap.size w w2) := Lib.hid (Below.next (Below.next_alloc HB.out _) hb2)
      have HF2 : Hid (w2.rowIs w.heap.size 5 N lgV) := Lib.hid (rowIs_below (HF.out.alloc _) hb2)
      clear hb2 HB HF hcv
      have hcv := HCQ.out w2 HF2.out
      go_wp2_with fail
      refine (write_any _ _ _ [⟨#[120]⟩, Q] _ (sees_two w2 ⟨#[120]⟩ Q _ _) ((HT.out.below HB2.out).alloc _) HSQ.out (by decide)).mono ?_
      rintro e w3 ⟨rfl, hb3⟩
      rw [HWQ.out]
      have HB3 : Hid (Below w.heap.size w w3) := Lib.hid (Below.next (Below.next_alloc HB2.out _) hb3)
      have HF3 : Hid (w3.rowIs w.heap.size 5 N lgV) := Lib.hid (rowIs_below (HF2.out.alloc _) hb3)
      clear hb3 HB2 HF2 hcv
      go_wp2_with fail
      refine (fread_any _ _ (HT.out.below HB3.out) HSS.out).mono ?_
      rintro e w4 ⟨v4, rfl, ho4, hb4⟩
      rw [HRD.out] at ho4 ⊢
      obtain ⟨a4, c4, rfl, hs4⟩ := ho4.at
      have HB4 : Hid (Below w.heap.size w w4) := Lib.hid (Below.next HB3.out hb4)
      have HF4 : Hid (w4.rowIs w.heap.size 5 N lgV) := Lib.hid (rowIs_below HF3.out hb4)
      obtain ⟨b4, o4, rfl, hl4, hx4, hy4⟩ := sees_two_of hs4
      clear hb4 HB3 HF3 ho4 hs4
      dsimp only [List.length_cons, List.length_nil]
      have hcv : (convert 30 9 (.slice (some ⟨w.heap.size, 0, none⟩) M N)).run Tryd.prog w4.drew = .ok (.string P) w4.drew := HCP.out w4.drew HF4.out
      go_wp2_with fail
      go_still_tail 19, (by kernel_rfl)
      change wpList _ _ _ _ _ w4.drew
      have HB5 : Hid (Below w.heap.size w w4.drew) := HB4.out.drew
      clear hcv hl4 hx4 hy4 HF4 HB4
      generalize w4.drew = w5 at *
      go_wp2_with fail
      refine (awake_any _ (HT.out.below HB5.out)).mono ?_
      rintro e w6 ⟨rfl, hb6⟩
      have HB6 : Hid (Below w.heap.size w w6) := Lib.hid (Below.next HB5.out hb6)
      clear hb6 HB5
      go_wp2_with fail
      go_ret
      exact ⟨rfl, HB6.out⟩

end Go.Proofs.YtalmkgjinabceaaDoor
