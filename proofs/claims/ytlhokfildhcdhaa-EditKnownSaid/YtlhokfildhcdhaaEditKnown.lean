/- The walk of EditKnown. -/
import Derived.Test.YtlhokfildhcdhaaEditOnly
import Derived.Test.YtlhokfildhcdhaaEdLit
import Derived.Deep.Cut
import Derived.Deep.RegionHeld3
namespace Go.Proofs.Ytlhokfildhcdhaa
open Go.RowKit Sk
set_option linter.unusedVariables false

namespace Ed
theorem enc_nil : encode edd = ([0, 0, 0, 0, 0], 0) := by decide +kernel
def e7 : Edt := ⟨[], [7], 1, 9, 4⟩
theorem enc_7 : encode e7 = ([0, 1, 7, 1, 9, 4], 0) := by decide +kernel
theorem in_nil : In edd := ⟨by simp [edd], by simp [edd], by simp [edd], by simp [edd], by simp [edd]⟩
theorem in_7 : In e7 := by
  refine ⟨by simp [e7], fun n hn => ?_, by simp [e7], by simp [e7], by simp [e7]⟩
  obtain rfl : n = 7 := by simpa [e7] using hn
  omega
end Ed

theorem bad_len1 : ∀ k, k < 6 → (adds.getD k []).length ≤ 2 := by decide +kernel
theorem bad_len2 : ∀ k, k < 6 → (drops.getD k []).length ≤ 1 := by decide +kernel
theorem dec_none (s : ByteArray) (h : Ed.decode s.data.toList = none) (hs : s.size ≤ 1000000000) (W : World) :
    Calls Try.prog 14 #[.string s] W fun e w' => e = .returned (.tuple #[edV none 0 0 none 0 0 0 0 0, .bool false]) ∧ Below W.heap.size W w' := by
  refine (decode_any s W hs).mono ?_
  rintro e w' ⟨hb, hc⟩
  rcases hc with ⟨_, rfl⟩ | ⟨ed, ao, ac, bo, bc, h2, _⟩
  · exact ⟨rfl, hb⟩
  · exact absurd (h.symm.trans h2) (by simp)
theorem short_none : Ed.decode ((⟨#[1, 3, 1, 2, 40, 5, 9, 1, 97, 1, 98, 0, 0, 0, 0]⟩ : ByteArray).extract 0 14).data.toList = none := by
  have h := Ed.dec_cut Ed.e0 Ed.right0 14 (by rw [Ed.enc0]; decide)
  rw [Ed.enc0] at h
  have e : ((⟨#[1, 3, 1, 2, 40, 5, 9, 1, 97, 1, 98, 0, 0, 0, 0]⟩ : ByteArray).extract 0 14).data.toList = Ed.bytes0.take 14 := by
    rw [Lib.extract_data]; rfl
  rw [e]
  unfold Ed.decode
  rw [if_neg (by decide)]
  exact h
theorem more_none : Ed.decode ((⟨#[1, 3, 1, 2, 40, 5, 9, 1, 97, 1, 98, 0, 0, 0, 0]⟩ : ByteArray) ++ ⟨#[0]⟩).data.toList = none := by
  have h := Ed.dec_more Ed.e0 Ed.right0 [0] (by simp)
  rw [Ed.enc0] at h
  have e : ((⟨#[1, 3, 1, 2, 40, 5, 9, 1, 97, 1, 98, 0, 0, 0, 0]⟩ : ByteArray) ++ ⟨#[0]⟩).data.toList = Ed.bytes0 ++ [0] := by
    rw [ByteArray.data_append, Array.toList_append]; rfl
  rw [e]
  unfold Ed.decode
  rw [if_neg (by decide)]
  exact h
def kindsE : List KE := [.nsl [0], .ed [] [0], .nsl [1099511627777], .ed [] [1099511627777], .tb tL, .tsl [tL], .ed [tL] [], .tb tR, .tsl [tR], .ed [tR] [], .tb tM, .tsl [tM], .ed [tM] [], .tb Ed.t0, .tb tN, .tsl [Ed.t0, tN], .ed [Ed.t0, tN] [], .rows, .rows]
def kVE (i : Nat) (v : Value) (w : World) : Prop := Ke (kindsE.getD i .rows) v w
def slotE (i : Nat) : Nat := if i = 18 then 9 else 38 + i
def keepE (t : Nat) : Bool := decide (t < 38) && !(t == 9)
theorem tbAt_heap {w : World} {b : Nat} {x : Tbl} {ty : TypeId} (h : w.heap[b]? = some (.cells (cellsTb x).toArray ty (0, 0))) : TbAt w b 0 x := by
  refine ⟨?_, ?_, ?_, ?_, ?_, ?_, ?_, ?_⟩ <;> (simp only [World.cell?, h]; rfl)
theorem four_boxes (w : World) (A B C D : Obj) : ((((w.alloc A).alloc B).alloc C).alloc D).heap[w.heap.size]? = some A ∧ ((((w.alloc A).alloc B).alloc C).alloc D).heap[w.heap.size + 1]? = some B ∧ ((((w.alloc A).alloc B).alloc C).alloc D).heap[w.heap.size + 1 + 1]? = some C ∧ ((((w.alloc A).alloc B).alloc C).alloc D).heap[w.heap.size + 1 + 1 + 1]? = some D := by
  have h1 : (w.alloc A).heap.size = w.heap.size + 1 := by simp
  have h2 : ((w.alloc A).alloc B).heap.size = w.heap.size + 1 + 1 := by simp
  have h3 : (((w.alloc A).alloc B).alloc C).heap.size = w.heap.size + 1 + 1 + 1 := by simp
  have a := heap_alloc_new w A
  have b := heap_alloc_new (w.alloc A) B
  have c := heap_alloc_new ((w.alloc A).alloc B) C
  have d := heap_alloc_new (((w.alloc A).alloc B).alloc C) D
  have k : ∀ (W : World) (o : Obj), Below W.heap.size W (W.alloc o) := fun W o => (Below.refl _ _).alloc (Nat.le_refl _) _
  have a := kept_block (kept_block (kept_block a (k _ B)) (k _ C)) (k _ D)
  have b := kept_block (kept_block b (k _ C)) (k _ D)
  have c := kept_block c (k _ D)
  rw [h1] at b; rw [h2] at c; rw [h3] at d
  exact ⟨a, b, c, d⟩

set_option maxHeartbeats 8000000 in
set_option maxRecDepth 100000 in
theorem known_walk (w : World) :
    Calls Try.prog 3 #[] w (Gives (.bool true) w) := by
  have HE : Hid (∀ W, Calls Try.prog 11 #[.agg #[.slice none 0 0, .slice none 0 0, .int .u64 0, .int .u64 0, .int .u64 0]] W (Told [0, 0, 0, 0, 0] 0 W)) := Lib.hid (fun W => by
    have := encode_any none 0 0 none 0 0 edd W (Or.inl ⟨rfl, _, _, rfl⟩) (Or.inl ⟨rfl, _, _, rfl⟩) (by omega) (by omega) Ed.in_nil
    rw [Ed.enc_nil] at this
    exact this)
  have HE7 : Hid (∀ W a c, SeesU W (.slice a 1 c) [7] → Calls Try.prog 11 #[.agg #[.slice none 0 0, .slice a 1 c, .int .u64 1, .int .u64 9, .int .u64 4]] W (Told [0, 1, 7, 1, 9, 4] 0 W)) := Lib.hid (fun W a c h => by
    have := encode_any none 0 0 a 1 c Ed.e7 W (Or.inl ⟨rfl, _, _, rfl⟩) h (by omega) (by omega) Ed.in_7
    rw [Ed.enc_7] at this
    exact this)
  have HTA : Hid (∀ W, Calls Try.prog 12 #[] W (Gives (.agg #[.int .u64 3, .int .i64 1, .int .i64 2, .int .i64 40, .string ⟨#[97]⟩, .string ⟨#[98]⟩, .int .u64 5, .int .u64 9]) W)) := Lib.hid (fun W => table0_any W)
  go_enter Try.func3, Try.ntmps3
  go_wp2_with fail
  refine (HE.out _).mono ?_
  rintro r w1 ⟨rfl, hb1⟩
  have HB1 := Lib.hid hb1
  clear hb1
  go_wp2_with fail
  refine (HE7.out _ _ _ (seesU_h1 (heap_alloc_new w1 _))).mono ?_
  rintro r w2 ⟨rfl, hb2⟩
  have HB2 : Hid (Below w.heap.size w w2) := Lib.hid (Below.next (Below.next_alloc HB1.out _) hb2)
  clear hb2
  go_wp2_with fail
  refine (HTA.out _).mono ?_
  rintro r w3 ⟨rfl, hb3⟩
  have HB3 : Hid (Below w2.heap.size w2 w3) := Lib.hid hb3
  clear hb3
  go_wp2_with fail
  refine (HTA.out _).mono ?_
  rintro r w4 ⟨rfl, hb4⟩
  have HB4 : Hid (Below w3.heap.size w3 w4) := Lib.hid hb4
  clear hb4
  go_wp2_with fail
  refine (HTA.out _).mono ?_
  rintro r w5 ⟨rfl, hb5⟩
  have HB5 : Hid (Below w4.heap.size w4 w5) := Lib.hid hb5
  clear hb5
  go_wp2_with fail
  refine (HTA.out _).mono ?_
  rintro r w6 ⟨rfl, hb6⟩
  have HB6 : Hid (Below w5.heap.size w5 w6) := Lib.hid hb6
  clear hb6
  go_wp2_with fail
  obtain ⟨q1, q2, q3, q4⟩ := four_boxes w6 (.cells #[.int .u64 3, .int .i64 4, .int .i64 2, .int .i64 40, .string ⟨#[97]⟩, .string ⟨#[98]⟩, .int .u64 5, .int .u64 9] 31) (.cells #[.int .u64 3, .int .i64 1, .int .i64 2, .int .i64 40, .string ⟨#[99]⟩, .string ⟨#[98]⟩, .int .u64 5, .int .u64 9] 31) (.cells #[.int .u64 3, .int .i64 1, .int .i64 2, .int .i64 40, .string ⟨#[97]⟩, .string ⟨#[98]⟩, .int .u64 10, .int .u64 9] 31) (.cells #[.int .u64 3, .int .i64 1, .int .i64 0, .int .i64 40, .string ⟨#[97]⟩, .string ⟨#[98]⟩, .int .u64 5, .int .u64 9] 31)
  have HBX : Hid (Below w6.heap.size w6 ((((w6.alloc (.cells #[.int .u64 3, .int .i64 4, .int .i64 2, .int .i64 40, .string ⟨#[97]⟩, .string ⟨#[98]⟩, .int .u64 5, .int .u64 9] 31)).alloc (.cells #[.int .u64 3, .int .i64 1, .int .i64 2, .int .i64 40, .string ⟨#[99]⟩, .string ⟨#[98]⟩, .int .u64 5, .int .u64 9] 31)).alloc (.cells #[.int .u64 3, .int .i64 1, .int .i64 2, .int .i64 40, .string ⟨#[97]⟩, .string ⟨#[98]⟩, .int .u64 10, .int .u64 9] 31)).alloc (.cells #[.int .u64 3, .int .i64 1, .int .i64 0, .int .i64 40, .string ⟨#[97]⟩, .string ⟨#[98]⟩, .int .u64 5, .int .u64 9] 31))) := Lib.hid (Below.next_alloc (Below.next_alloc (Below.next_alloc ((Below.refl _ _).alloc (Nat.le_refl _) _) _) _) _)
  generalize (((w6.alloc (.cells #[.int .u64 3, .int .i64 4, .int .i64 2, .int .i64 40, .string ⟨#[97]⟩, .string ⟨#[98]⟩, .int .u64 5, .int .u64 9] 31)).alloc (.cells #[.int .u64 3, .int .i64 1, .int .i64 2, .int .i64 40, .string ⟨#[99]⟩, .string ⟨#[98]⟩, .int .u64 5, .int .u64 9] 31)).alloc (.cells #[.int .u64 3, .int .i64 1, .int .i64 2, .int .i64 40, .string ⟨#[97]⟩, .string ⟨#[98]⟩, .int .u64 10, .int .u64 9] 31)).alloc (.cells #[.int .u64 3, .int .i64 1, .int .i64 0, .int .i64 40, .string ⟨#[97]⟩, .string ⟨#[98]⟩, .int .u64 5, .int .u64 9] 31) = W0 at *
  have HT : Hid (∀ W, Below W0.heap.size W0 W → TbAt W w6.heap.size 0 tL ∧ TbAt W (w6.heap.size + 1) 0 tR ∧ TbAt W (w6.heap.size + 1 + 1) 0 tM ∧ TbAt W (w6.heap.size + 1 + 1 + 1) 0 tN) := Lib.hid (fun W hb => ⟨tbAt_heap (kept_block q1 hb), tbAt_heap (kept_block q2 hb), tbAt_heap (kept_block q3 hb), tbAt_heap (kept_block q4 hb)⟩)
  have HB0 : Hid (Below w.heap.size w W0) := Lib.hid (Below.next (Below.next (Below.next (Below.next (Below.next HB2.out HB3.out) HB4.out) HB5.out) HB6.out) HBX.out)
  clear q1 q2 q3 q4 HB1 HB2 HB3 HB4 HB5 HB6 HBX HE7
  go_cut [9] from 38 (fun v w' => BadAt w' v ∧ Below W0.heap.size W0 w')
  case first =>
    refine region_lit2_start 140 keepE slotE kVE (by kernel_rfl) (Fr_of _ _ rfl) (fun i v w w' hb h => Ke.below hb h) (by kernel_rfl) ?_ ?_ ?_
    · intro i j hi hj h
      have hi : i < 19 := hi
      have hj : j < 19 := hj
      unfold slotE at h
      split at h <;> split at h <;> omega
    · intro g W hk hb
      have g5 : g 5 = .pointer (some ⟨w6.heap.size, 0, none⟩) := hk 5 rfl
      have g6 : g 6 = .pointer (some ⟨w6.heap.size + 1, 0, none⟩) := hk 6 rfl
      have g7 : g 7 = .pointer (some ⟨w6.heap.size + 1 + 1, 0, none⟩) := hk 7 rfl
      have g8 : g 8 = .pointer (some ⟨w6.heap.size + 1 + 1 + 1, 0, none⟩) := hk 8 rfl
      refine ⟨?_, ?_, ?_, ?_, ?_, ?_, ?_, ?_, ?_, ?_, ?_, ?_, ?_, ?_, ?_, ?_, ?_, ?_, ?_, trivial⟩ <;> intro hd
      · exact se_nsl rfl
      · have h : Ke (.nsl [0]) (g 38) W := hd ⟨0, .data⟩ (by simp) rfl; exact se_edn (by omega) h
      · exact se_nsl rfl
      · have h : Ke (.nsl [1099511627777]) (g 40) W := hd ⟨2, .data⟩ (by simp) rfl; exact se_edn (by omega) h
      · exact se_load (by omega) g5 (HT.out W hb).1
      · have h : Ke (.tb tL) (g 42) W := hd ⟨4, .data⟩ (by simp) rfl; exact se_tsl (by omega) h
      · have h : Ke (.tsl [tL]) (g 43) W := hd ⟨5, .data⟩ (by simp) rfl; exact se_edt (by omega) h
      · exact se_load (by omega) g6 (HT.out W hb).2.1
      · have h : Ke (.tb tR) (g 45) W := hd ⟨7, .data⟩ (by simp) rfl; exact se_tsl (by omega) h
      · have h : Ke (.tsl [tR]) (g 46) W := hd ⟨8, .data⟩ (by simp) rfl; exact se_edt (by omega) h
      · exact se_load (by omega) g7 (HT.out W hb).2.2.1
      · have h : Ke (.tb tM) (g 48) W := hd ⟨10, .data⟩ (by simp) rfl; exact se_tsl (by omega) h
      · have h : Ke (.tsl [tM]) (g 49) W := hd ⟨11, .data⟩ (by simp) rfl; exact se_edt (by omega) h
      · exact Or.inr ⟨12, #[], by simp only [execOp]; go_simp; first | done | rfl, (HTA.out _).mono (by rintro e w' ⟨rfl, hb⟩; exact ⟨_, rfl, hb, rfl⟩)⟩
      · exact se_load (by omega) g8 (HT.out W hb).2.2.2
      · have h : Ke (.tb Ed.t0) (g 51) W := hd ⟨13, .data⟩ (by simp) rfl; have h' : Ke (.tb tN) (g 52) W := hd ⟨14, .data⟩ (by simp) rfl; exact se_tsl2 (by omega) (by omega) h h'
      · have h : Ke (.tsl [Ed.t0, tN]) (g 53) W := hd ⟨15, .data⟩ (by simp) rfl; exact se_edt (by omega) h
      · exact se_rows (by omega) (hd ⟨1, .data⟩ (by simp) rfl) (hd ⟨3, .data⟩ (by simp) rfl) (hd ⟨6, .data⟩ (by simp) rfl) (hd ⟨9, .data⟩ (by simp) rfl) (hd ⟨12, .data⟩ (by simp) rfl) (hd ⟨16, .data⟩ (by simp) rfl)
      · have h : Ke (.rows) (g 55) W := hd ⟨17, .data⟩ (by simp) rfl; exact se_asg _ (by omega) rfl h
    · intro g W hk hb hv
      have hR : BadAt W (g 9) := hv 18 (by decide)
      change _ at *
      go_wp2_with fail
      refine Met.intro ?_
      go_step
      refine ⟨g 9, g 38, g 39, g 40, g 41, g 42, g 43, g 44, g 45, g 46, g 47, g 48, g 49, g 50, g 51, g 52, g 53, g 54, g 55, g 56, g 57, g 58, g 59, g 60, g 61, g 62, g 63, g 64, g 65, g 66, g 67, g 68, g 69, g 70, g 71, g 72, g 73, g 74, g 75, g 76, g 77, g 78, g 79, g 80, g 81, g 82, g 83, g 84, g 85, g 86, g 87, g 88, g 89, g 90, g 91, g 92, g 93, g 94, g 95, g 96, g 97, g 98, g 99, g 100, g 101, g 102, g 103, g 104, g 105, g 106, g 107, g 108, g 109, g 110, g 111, g 112, g 113, g 114, g 115, g 116, g 117, g 118, g 119, g 120, g 121, g 122, g 123, g 124, g 125, g 126, g 127, g 128, g 129, g 130, g 131, g 132, g 133, g 134, g 135, g 136, g 137, g 138, g 139, ⟨hR, hb⟩, ?_⟩
      refine (congrArg (fun l => Act.mk (List.toArray (List.map g l)) []) (show List.range 140 = [0, 1, 2, 3, 4, 5, 6, 7, 8, 9, 10, 11, 12, 13, 14, 15, 16, 17, 18, 19, 20, 21, 22, 23, 24, 25, 26, 27, 28, 29, 30, 31, 32, 33, 34, 35, 36, 37, 38, 39, 40, 41, 42, 43, 44, 45, 46, 47, 48, 49, 50, 51, 52, 53, 54, 55, 56, 57, 58, 59, 60, 61, 62, 63, 64, 65, 66, 67, 68, 69, 70, 71, 72, 73, 74, 75, 76, 77, 78, 79, 80, 81, 82, 83, 84, 85, 86, 87, 88, 89, 90, 91, 92, 93, 94, 95, 96, 97, 98, 99, 100, 101, 102, 103, 104, 105, 106, 107, 108, 109, 110, 111, 112, 113, 114, 115, 116, 117, 118, 119, 120, 121, 122, 123, 124, 125, 126, 127, 128, 129, 130, 131, 132, 133, 134, 135, 136, 137, 138, 139] from rfl)).trans ?_
      simp only [List.map_cons, List.map_nil]
      refine congrArg (fun l => Act.mk (List.toArray l) []) ?_
      iterate 140 (refine List.cons_eq_cons.2 ⟨by first | rfl | exact hk _ rfl, ?_⟩)
      rfl
  case rest =>
    obtain ⟨⟨b, rfl, hbl, hrows⟩, hbw⟩ := hcut
    have HRW := Lib.hid hrows
    have HBL := Lib.hid hbl
    have HBW : Hid (Below w.heap.size w wc) := Lib.hid (Below.next HB0.out hbw)
    clear hbw hrows hbl HT HB0
    go_wp2_with fail
    go_loopw [10] (fun i wx => ∃ k : Nat, k ≤ 6 ∧ i = .int .i64 k ∧ Hid (Below wc.heap.size wc wx)) (fun i _ => 6 - (intOf i).toNat)
    case atStart => exact ⟨0, by omega, rfl, Lib.hid (Below.refl _ _)⟩
    case round =>
      obtain ⟨k, hk, rfl, HX⟩ := hrel
      by_cases hlt : k < 6
      · obtain ⟨ao, ac, bo, bc, c0, c1, c2, c3, c4, hs, hu⟩ := HRW.out k hlt
        have d0 := (HX.out.cell (p := ⟨b, k * 5, none⟩) HBL.out).trans c0
        have d1 := (HX.out.cell (p := ⟨b, k * 5 + 1, none⟩) HBL.out).trans c1
        have d2 := (HX.out.cell (p := ⟨b, k * 5 + 2, none⟩) HBL.out).trans c2
        have d3 := (HX.out.cell (p := ⟨b, k * 5 + 3, none⟩) HBL.out).trans c3
        have d4 := (HX.out.cell (p := ⟨b, k * 5 + 4, none⟩) HBL.out).trans c4
        have hs1 := hs.below HX.out
        have hu1 := hu.below HX.out
        have hck := bad_chk k hlt
        have hl1 : (adds.getD k []).length ≤ 2 := bad_len1 k hlt
        have hl2 : (drops.getD k []).length ≤ 1 := bad_len2 k hlt
        clear c0 c1 c2 c3 c4 hs hu
        generalize adds.getD k [] = al at *
        generalize drops.getD k [] = dl at *
        have HBk : Hid (b < wr.heap.size) := Lib.hid (Nat.lt_of_lt_of_le HBL.out HX.out.size)
        have HE2 : Hid (∀ W, SeesTb W (.slice ao al.length ac) al → SeesU W (.slice bo dl.length bc) dl → Calls Try.prog 11 #[.agg #[.slice ao al.length ac, .slice bo dl.length bc, .int .u64 0, .int .u64 0, .int .u64 0]] W (Told [] 1 W)) := Lib.hid (fun W h1 h2 => by
          have := encode_no ao al.length ac bo dl.length bc ⟨al, dl, 0, 0, 0⟩ W h1 h2 (by omega) (by omega) (by rw [hck]; decide)
          rw [hck] at this
          exact this)
        have HC : Hid (∀ W, SeesTb W (.slice ao al.length ac) al → SeesU W (.slice bo dl.length bc) dl → Calls Try.prog 13 #[.agg #[.slice ao al.length ac, .slice bo dl.length bc, .int .u64 0, .int .u64 0, .int .u64 0]] W (Gives (.int .i64 1) W)) := Lib.hid (fun W h1 h2 => by
          have := check_any ao al.length ac bo dl.length bc ⟨al, dl, 0, 0, 0⟩ W h1 h2 (by omega) (by omega)
          rw [hck] at this
          exact this)
        have HS1 := Lib.hid hs1
        have HU1 := Lib.hid hu1
        clear hs1 hu1 hck hl1 hl2
        generalize al.length = n at *
        generalize dl.length = m at *
        go_wp2_with fail
        refine (HE2.out _ HS1.out HU1.out).mono ?_
        rintro x v1 ⟨rfl, hb1⟩
        have d0 := (hb1.cell (p := ⟨b, k * 5, none⟩) HBk.out).trans d0
        have d1 := (hb1.cell (p := ⟨b, k * 5 + 1, none⟩) HBk.out).trans d1
        have d2 := (hb1.cell (p := ⟨b, k * 5 + 2, none⟩) HBk.out).trans d2
        have d3 := (hb1.cell (p := ⟨b, k * 5 + 3, none⟩) HBk.out).trans d3
        have d4 := (hb1.cell (p := ⟨b, k * 5 + 4, none⟩) HBk.out).trans d4
        have HX1 : Hid (Below wc.heap.size wc v1) := Lib.hid (Below.next HX.out hb1)
        have HS2 := Lib.hid (HS1.out.below hb1)
        have HU2 := Lib.hid (HU1.out.below hb1)
        have HBk1 : Hid (b < v1.heap.size) := Lib.hid (Nat.lt_of_lt_of_le HBk.out hb1.size)
        clear hb1
        go_wp2_with fail
        refine (HC.out _ HS2.out HU2.out).mono ?_
        rintro x v2 ⟨rfl, hb2⟩
        have HX2 : Hid (Below wc.heap.size wc v2) := Lib.hid (Below.next HX1.out hb2)
        clear hb2
        go_wp2_with fail
        go_roundw
        case rel => exact ⟨k + 1, by omega, by go_num, HX2⟩
        case measure => simp [intOf]; omega
      · obtain rfl : k = 6 := by omega
        have HX6 : Hid (Below w.heap.size w wr) := Lib.hid (Below.next HBW.out HX.out)
        clear HX HBW HRW HBL
        have HE0 : Hid (∀ W a c, SeesTb W (.slice a 1 c) [Ed.t0] → Calls Try.prog 11 #[.agg #[.slice a 1 c, .slice none 0 0, .int .u64 0, .int .u64 0, .int .u64 0]] W (Told Ed.bytes0 0 W)) := Lib.hid (fun W a c h => by
          have := encode_any a 1 c none 0 0 Ed.e0 W h (Or.inl ⟨rfl, none, 0, rfl⟩) (by omega) (by omega) Ed.in0
          rw [Ed.encode0] at this
          exact this)
        go_wp2_with fail
        refine (HTA.out _).mono ?_
        rintro r v1 ⟨rfl, hb1⟩
        have HB1 : Hid (Below w.heap.size w v1) := Lib.hid (Below.next HX6.out hb1)
        clear hb1
        go_wp2_with fail
        refine (HE0.out _ _ _ (seesTb_cells (heap_alloc_new v1 _) rfl rfl 1)).mono ?_
        rintro r v2 ⟨rfl, hb2⟩
        have HB2 : Hid (Below w.heap.size w v2) := Lib.hid (Below.next (Below.next_alloc HB1.out _) hb2)
        clear hb2
        unfold Ed.bytes0
        go_wp2_with fail
        refine (dec_none _ short_none (by decide) _).mono ?_
        rintro r v3 ⟨rfl, hb3⟩
        have HB3 : Hid (Below w.heap.size w v3) := Lib.hid (Below.next HB2.out hb3)
        clear hb3
        unfold edV
        go_wp2_with fail
        refine (dec_none _ more_none (by decide) _).mono ?_
        rintro r v4 ⟨rfl, hb4⟩
        have HB4 : Hid (Below w.heap.size w v4) := Lib.hid (Below.next (Below.next_alloc HB3.out _) hb4)
        clear hb4
        unfold edV
        go_wp2_with fail
        have HJ : Hid (∀ W, Calls Try.prog 17 #[.slice none 0 0] W (EdMade edd W)) := Lib.hid (fun W => by
          have := join_any none 0 0 [] W (Or.inl ⟨rfl, _, _, rfl⟩) ⟨by simp, by simp⟩
          exact this)
        refine (HJ.out _).mono ?_
        rintro r v5 ⟨jo, jc, ko, kc, rfl, ho1, ho2, hb5⟩
        have HB5 : Hid (Below w.heap.size w v5) := Lib.hid (Below.next (Below.next_alloc HB4.out _) hb5)
        clear hb5 ho1 ho2
        have HGV : Hid (∀ W, Calls Try.prog 16 #[edV jo 0 jc ko 0 kc 0 0 0] W (Gives (edV jo 0 jc ko 0 kc 0 0 0) W)) := Lib.hid (fun W => given_any jo 0 jc ko 0 kc 0 0 0 W)
        have HSM : Hid (∀ W, Calls Try.prog 15 #[edV jo 0 jc ko 0 kc 0 0 0, edV none 0 0 none 0 0 0 0 0] W (Gives (.bool true) W)) := Lib.hid (fun W => same_yes jo none 0 jc 0 ko none 0 kc 0 edd W (Or.inl ⟨rfl, _, _, rfl⟩) (Or.inl ⟨rfl, _, _, rfl⟩) (Or.inl ⟨rfl, _, _, rfl⟩) (Or.inl ⟨rfl, _, _, rfl⟩) (by omega) (by omega))
        have HAW : Hid (∀ W, Calls Try.prog 18 #[] W (Gives (.bool true) W)) := Lib.hid (fun W => awake_any W)
        have q1 : edd.add.length = 0 := rfl
        have q2 : edd.drop.length = 0 := rfl
        have q3 : edd.log = 0 := rfl
        have q4 : edd.seq = 0 := rfl
        have q5 : edd.next = 0 := rfl
        rw [q1, q2, q3, q4, q5]
        clear q1 q2 q3 q4 q5
        unfold edV at *
        go_wp2_with fail
        refine (HGV.out _).mono ?_
        rintro r v6 ⟨rfl, hb6⟩
        have HB6 : Hid (Below w.heap.size w v6) := Lib.hid (Below.next HB5.out hb6)
        clear hb6
        go_wp2_with fail
        refine (HSM.out _).mono ?_
        rintro r v7 ⟨rfl, hb7⟩
        have HB7 : Hid (Below w.heap.size w v7) := Lib.hid (Below.next HB6.out hb7)
        clear hb7
        go_wp2_with fail
        refine (HAW.out _).mono ?_
        rintro r v8 ⟨rfl, hb8⟩
        have HB8 : Hid (Below w.heap.size w v8) := Lib.hid (Below.next HB7.out hb8)
        clear hb8
        go_wp2_with fail
        go_ret
        exact ⟨rfl, HB8.out⟩

end Go.Proofs.Ytlhokfildhcdhaa
