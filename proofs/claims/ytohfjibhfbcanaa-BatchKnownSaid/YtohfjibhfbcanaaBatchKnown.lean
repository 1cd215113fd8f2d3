/- The walk of BatchKnown. -/
import Derived.Test.YtohfjibhfbcanaaBkRow
import Derived.Test.YtohfjibhfbcanaaBtI
import Derived.Laws.OwnMore
import Derived.Deep.Cut
namespace Go.Proofs.Ytohfjibhfbcanaa
open Go.RowKit
set_option linter.unusedVariables false
set_option linter.unusedSimpArgs false

/-- The first k of seventeen operations have a key. -/
def Keys (b k : Nat) (w : World) : Prop := b < w.heap.size ∧ (∀ j, j < 17 → ObAt w b (j * 3) (if j < k then obk else obz)) ∧ ∀ j, j < 17 → w.frozen? ⟨b, j * 3, none⟩ = false
theorem Keys.put {b k : Nat} {w : World} (h : Keys b k w) (hk : k < 17) : Keys b (k + 1) (w.setCell ⟨b, k * 3, none⟩ (.string ⟨#[107]⟩)) := by
  obtain ⟨h0, h1, h2⟩ := h
  refine ⟨by simpa using h0, fun j hj => ?_, fun j hj => by rw [World.frozen?_setCell]; exact h2 j hj⟩
  obtain ⟨c0, c1, c2⟩ := h1 j hj
  by_cases e : j = k
  · subst e
    rw [if_pos (by omega)]
    rw [if_neg (by omega)] at c0 c1 c2
    exact ⟨World.cell?_setCell_same' w _ _ (by rw [c0]; rfl), (World.cell?_setCell_other w _ ⟨b, j * 3 + 1, none⟩ _ (by simp)).trans c1, (World.cell?_setCell_other w _ ⟨b, j * 3 + 2, none⟩ _ (by simp)).trans c2⟩
  · have hif : (if j < k + 1 then obk else obz) = if j < k then obk else obz := by
      by_cases h : j < k
      · rw [if_pos h, if_pos (by omega)]
      · rw [if_neg h, if_neg (by omega)]
    rw [hif]
    refine ⟨(World.cell?_setCell_other w _ ⟨b, j * 3, none⟩ _ ?_).trans c0, (World.cell?_setCell_other w _ ⟨b, j * 3 + 1, none⟩ _ ?_).trans c1, (World.cell?_setCell_other w _ ⟨b, j * 3 + 2, none⟩ _ ?_).trans c2⟩ <;>
      (intro e1; simp only [Addr.mk.injEq] at e1; omega)
theorem cell_at {W : World} {b : Nat} {C : Array Value} {t : TypeId} {z : Nat × Nat} {o : Nat} (h : W.heap[b]? = some (.cells C t z)) : W.cell? ⟨b, o, none⟩ = C[o]? := by simp [World.cell?, h]
theorem frozen_at {W : World} {b : Nat} {C : Array Value} {t : TypeId} {o : Nat} (h : W.heap[b]? = some (.cells C t (0, 0))) : W.frozen? ⟨b, o, none⟩ = false := by simp [World.frozen?, h]
theorem make_ops (w : World) :
    ∃ M : Array Value, (Instr.makeSlice 22 (.int .i64 17) (.int .i64 17)).run Try.prog w = .ok (.slice (some ⟨w.heap.size, 0, none⟩) 17 17) (w.alloc (.cells M 24)) ∧ Keys w.heap.size 0 (w.alloc (.cells M 24)) := by
  obtain ⟨i0, hi, hz0, hz1, hz2⟩ := info_parts info_op
  have h := run_make (P := Try.prog) w 22 24 i0 _ Try.underlying22 hi hz0 .i64 .i64 17 17 (by omega) (by omega) (by rw [hz2]; omega) (by omega)
  refine ⟨madeCells #[.string ⟨#[]⟩, .string ⟨#[]⟩, .bool false] 51, ?_, ?_⟩
  · have e : (Value.agg #[Value.string ⟨#[]⟩, Value.string ⟨#[]⟩, Value.bool false]).cells = #[.string ⟨#[]⟩, .string ⟨#[]⟩, .bool false] := rfl
    rw [hz1, e] at h; exact h
  have hh := heap_alloc_new w (.cells (madeCells #[.string ⟨#[]⟩, .string ⟨#[]⟩, .bool false] 51) 24)
  refine ⟨by rw [World.size_alloc]; omega, fun j hj => ?_, fun j hj => ?_⟩
  · have hc : ∀ o, o < 51 → (w.alloc (.cells (madeCells #[.string ⟨#[]⟩, .string ⟨#[]⟩, .bool false] 51) 24)).cell? ⟨w.heap.size, o, none⟩ = some (#[Value.string ⟨#[]⟩, .string ⟨#[]⟩, .bool false][o % 3]!) := by
      intro o ho
      rw [cell_at hh]
      simp only [madeCells, Array.getElem?_map, Array.getElem?_range, if_pos ho, Option.map_some]
      rfl
    rw [if_neg (by omega)]
    have e0 : j * 3 % 3 = 0 := by omega
    have e1 : (j * 3 + 1) % 3 = 1 := by omega
    have e2 : (j * 3 + 2) % 3 = 2 := by omega
    refine ⟨?_, ?_, ?_⟩
    · rw [hc _ (by omega), e0]; rfl
    · rw [hc _ (by omega), e1]; rfl
    · rw [hc _ (by omega), e2]; rfl
  · exact frozen_at hh

theorem Keys.sees {b : Nat} {w W : World} (h : Keys b 17 w) (hb : Below w.heap.size w W) (n : Nat) (hn : n ≤ 17) : SeesO W (.slice (some ⟨b, 0, none⟩) (List.replicate n obk).length 17) (List.replicate n obk) := by
  obtain ⟨h0, h1, _⟩ := h
  refine Or.inr ⟨b, 0, 17, by simp, Nat.lt_of_lt_of_le h0 hb.size, fun i hi => ?_⟩
  have hi' : i < n := by simpa using hi
  have := (h1 i (by omega)).below hb h0
  rw [if_pos (by omega)] at this
  have e : (List.replicate n obk).getD i obd = obk := by simp [hi']
  rw [e, Nat.zero_add]; exact this

theorem rws_chk : ∀ k, k < 11 → Bt.chk (rws.getD k rwd).1 (rws.getD k rwd).2.1 = (rws.getD k rwd).2.2 := by decide +kernel
theorem rws_seq : ∀ k, k < 11 → (rws.getD k rwd).1 < 18446744073709551616 := by decide +kernel

theorem dec_none (s : ByteArray) (h : Bt.decl s.data.toList = none) (hs : s.size ≤ 1000000000) (W : World) :
    Calls Try.prog 12 #[.string s] W fun e w' => e = .returned (.tuple #[.agg #[.int .u64 (0 : Nat), .slice none 0 0], .bool false]) ∧ Below W.heap.size W w' := by
  refine (decode_any s W hs).mono ?_
  rintro e w' ⟨hb, hc⟩
  rcases hc with ⟨_, rfl⟩ | ⟨seq, os, a, c, h2, _⟩
  · exact ⟨rfl, hb⟩
  · exact absurd (h.symm.trans h2) (by simp)
theorem short_none : Bt.decl ((⟨#[7, 2, 0, 1, 97, 1, 120, 1, 1, 98]⟩ : ByteArray).extract 0 9).data.toList = none := by
  have h := Bt.decl_cut small_chk 9 (by rw [small_encl]; decide)
  rw [small_encl] at h
  rw [Lib.extract_data]
  exact h
theorem more_none : Bt.decl ((⟨#[7, 2, 0, 1, 97, 1, 120, 1, 1, 98]⟩ : ByteArray) ++ ⟨#[0]⟩).data.toList = none := by
  have h := Bt.decl_more small_chk [0] (by simp)
  rw [small_encl] at h
  rw [ByteArray.data_append, Array.toList_append]
  exact h
theorem no_entries (W : World) : Calls Try.prog 14 #[.agg #[.int .u64 5, .slice none 0 0]] W fun e w' => (∃ ao cap, e = .returned (.slice ao 0 cap)) ∧ Below W.heap.size W w' := by
  refine (entries_any 5 none 0 0 [] W (Or.inl ⟨rfl, none, 0, rfl⟩) (by omega) (by omega) (by simp)).mono ?_
  rintro e w' ⟨⟨v, rfl, ho⟩, hb⟩
  obtain ⟨ao, cap, rfl⟩ := ho.sees.slice
  exact ⟨⟨ao, cap, rfl⟩, hb⟩

theorem last_five (W : World) : Calls Try.prog 13 #[.agg #[.int .u64 5, .slice none 0 0]] W (Gives (.int .u64 5) W) := last_any 5 none 0 0 W (by omega) (by omega)

def kinds (B : Nat) : List K := [.bat 1 [], .row 1 [] 1, .op oa, .sl [oa], .bat 0 [oa], .row 0 [oa] 1, .op ob, .sl [ob], .bat 1 [ob], .row 1 [ob] 1, .op obz, .sl [obz], .bat 1 [obz], .row 1 [obz] 1, .str lng, .str (lng ++ ⟨#[52]⟩), .op ol4, .sl [ol4], .bat 1 [ol4], .row 1 [ol4] 3, .eq (slc B 17), .bat 1 (List.replicate 17 obk), .row 1 (List.replicate 17 obk) 3, .eq (slc B 17), .eq (slc B 16), .bat 1 (List.replicate 16 obk), .row 1 (List.replicate 16 obk) 0, .str lng, .op oll, .sl [oll], .bat 1 [oll], .row 1 [oll] 0, .eq (slc B 17), .eq (slc B 1), .bat 9223372036854775808 (List.replicate 1 obk), .row 9223372036854775808 (List.replicate 1 obk) 0, .eq (slc B 17), .eq (slc B 2), .bat 9223372036854775808 (List.replicate 2 obk), .row 9223372036854775808 (List.replicate 2 obk) 1, .eq (slc B 17), .eq (slc B 2), .bat 18446744073709551615 (List.replicate 2 obk), .row 18446744073709551615 (List.replicate 2 obk) 1, .rows, .rows]
def kV (B : Nat) (i : Nat) (v : Value) (w : World) : Prop := Kv ((kinds B).getD i .rows) v w
def slotOf (i : Nat) : Nat := if i = 45 then 4 else 25 + i
def keepT (t : Nat) : Bool := decide (t < 25) && !(t == 4)

set_option maxRecDepth 100000 in
set_option maxHeartbeats 4000000 in
theorem known_walk (w : World) :
    Calls Try.prog 3 #[] w (Gives (.bool true) w) := by
  obtain ⟨M, hM, hk0⟩ := make_ops w
  have HK0 := Lib.hid hk0
  clear hk0
  have HB0 : Hid (Below w.heap.size w (w.alloc (.cells M 24))) := Lib.hid ((Below.refl _ _).alloc (Nat.le_refl _) _)
  go_enter Try.func3, Try.ntmps3
  go_wp2_with fail
  clear hM
  generalize w.alloc (.cells M 24) = W0 at *
  generalize hgB : w.heap.size = B at *
  go_loopw [3] (fun i wr => ∃ k : Nat, k ≤ 17 ∧ i = .int .i64 k ∧ Hid (Keys B k wr) ∧ Hid (Below B w wr)) (fun i _ => 17 - (intOf i).toNat)
  case atStart => exact ⟨0, by omega, rfl, HK0, HB0⟩
  case round =>
    obtain ⟨k, hk, rfl, HK, HB⟩ := hrel
    by_cases hlt : k < 17
    · have d0 := (HK.out.2.1 k hlt).1
      have d1 := HK.out.2.2 k hlt
      rw [if_neg (by omega)] at d0
      have HN := Lib.hid (HK.out.put hlt)
      have HN2 : Hid (Below B w (wr.setCell ⟨B, k * 3, none⟩ (.string ⟨#[107]⟩))) := Lib.hid (HB.out.setCell (Nat.le_refl _) _)
      go_wp2_with fail
      go_roundw
      case rel => exact ⟨k + 1, by omega, by go_num, HN, HN2⟩
      case measure => simp [intOf]; omega
    · obtain rfl : k = 17 := by omega
      have e1 : ¬ ((17 : Nat) : Int) < 17 := by omega
      go_wp2_with fail
      have HS : Hid (∀ n, n ≤ 17 → ∀ W, Below wr.heap.size wr W → SeesO W (.slice (some ⟨B, 0, none⟩) (List.replicate n obk).length 17) (List.replicate n obk)) := Lib.hid (fun n hn W hW => HK.out.sees hW n hn)
      clear HK0 HB0 HK
      go_cut [4] from 25 (fun v w' => Kv .rows v w' ∧ Below wr.heap.size wr w')
      case first =>
        refine region_lit_start 149 keepT slotOf (kV B) (by kernel_rfl) (Fr_of _ _ rfl) (fun i v w w' hb h => Kv.below hb h) (by kernel_rfl) ?_ ?_ ?_
        · intro i j hi hj h
          have hi : i < 46 := hi
          have hj : j < 46 := hj
          unfold slotOf at h
          split at h <;> split at h <;> omega
        · intro g w hk hb
          have h1 : g 1 = .string lng := hk 1 rfl
          have h2 : g 2 = slc B 17 := hk 2 rfl
          refine ⟨?_, ?_, ?_, ?_, ?_, ?_, ?_, ?_, ?_, ?_, ?_, ?_, ?_, ?_, ?_, ?_, ?_, ?_, ?_, ?_, ?_, ?_, ?_, ?_, ?_, ?_, ?_, ?_, ?_, ?_, ?_, ?_, ?_, ?_, ?_, ?_, ?_, ?_, ?_, ?_, ?_, ?_, ?_, ?_, ?_, ?_, trivial⟩ <;> intro hd
          · exact ⟨_, _, by go_simp; try with_reducible rfl, Below.refl _ _, none, 0, rfl, Or.inl ⟨rfl, none, 0, rfl⟩⟩ -- 0
          · have h : Kv (.bat 1 []) (g 25) w := hd ⟨0, .data⟩ (by simp) rfl; exact st_row rfl (by omega) h -- 1
          · exact ⟨_, _, by go_simp; exact ⟨rfl, rfl, rfl⟩, Below.refl _ _, rfl⟩ -- 2
          · have h : Kv (.op oa) (g 27) w := hd ⟨2, .data⟩ (by simp) rfl; exact st_sl (by omega) h -- 3
          · have h : Kv (.sl [oa]) (g 28) w := hd ⟨3, .data⟩ (by simp) rfl; exact st_bat0 (by omega) h -- 4
          · have h : Kv (.bat 0 [oa]) (g 29) w := hd ⟨4, .data⟩ (by simp) rfl; exact st_row rfl (by omega) h -- 5
          · exact ⟨_, _, by go_simp; exact ⟨rfl, rfl, rfl⟩, Below.refl _ _, rfl⟩ -- 6
          · have h : Kv (.op ob) (g 31) w := hd ⟨6, .data⟩ (by simp) rfl; exact st_sl (by omega) h -- 7
          · have h : Kv (.sl [ob]) (g 32) w := hd ⟨7, .data⟩ (by simp) rfl; exact st_bat rfl (by omega) h -- 8
          · have h : Kv (.bat 1 [ob]) (g 33) w := hd ⟨8, .data⟩ (by simp) rfl; exact st_row rfl (by omega) h -- 9
          · exact ⟨_, _, by go_simp; exact ⟨rfl, rfl, rfl⟩, Below.refl _ _, rfl⟩ -- 10
          · have h : Kv (.op obz) (g 35) w := hd ⟨10, .data⟩ (by simp) rfl; exact st_sl (by omega) h -- 11
          · have h : Kv (.sl [obz]) (g 36) w := hd ⟨11, .data⟩ (by simp) rfl; exact st_bat rfl (by omega) h -- 12
          · have h : Kv (.bat 1 [obz]) (g 37) w := hd ⟨12, .data⟩ (by simp) rfl; exact st_row rfl (by omega) h -- 13
          · exact st_mv _ (by omega) h1 rfl -- 14
          · have h : Kv (.str lng) (g 39) w := hd ⟨14, .data⟩ (by simp) rfl; exact st_cat (by decide +kernel) (by omega) h -- 15
          · have h : Kv (.str (lng ++ ⟨#[52]⟩)) (g 40) w := hd ⟨15, .data⟩ (by simp) rfl; exact st_op1 (by omega) h -- 16
          · have h : Kv (.op ol4) (g 41) w := hd ⟨16, .data⟩ (by simp) rfl; exact st_sl (by omega) h -- 17
          · have h : Kv (.sl [ol4]) (g 42) w := hd ⟨17, .data⟩ (by simp) rfl; exact st_bat rfl (by omega) h -- 18
          · have h : Kv (.bat 1 [ol4]) (g 43) w := hd ⟨18, .data⟩ (by simp) rfl; exact st_row rfl (by omega) h -- 19
          · exact st_mv _ (by omega) h2 rfl -- 20
          · have h : Kv (.eq (slc B 17)) (g 45) w := hd ⟨20, .data⟩ (by simp) rfl; exact st_bat rfl (by omega) (show Kv (.sl (List.replicate 17 obk)) (g 45) w from ⟨some ⟨B, 0, none⟩, 17, h, HS.out 17 (by omega) w hb⟩) -- 21
          · have h : Kv (.bat 1 (List.replicate 17 obk)) (g 46) w := hd ⟨21, .data⟩ (by simp) rfl; exact st_row rfl (by omega) h -- 22
          · exact st_mv _ (by omega) h2 rfl -- 23
          · have h : Kv (.eq (slc B 17)) (g 48) w := hd ⟨23, .data⟩ (by simp) rfl; exact st_cut 16 rfl (by omega) (by omega) h -- 24
          · have h : Kv (.eq (slc B 16)) (g 49) w := hd ⟨24, .data⟩ (by simp) rfl; exact st_bat rfl (by omega) (show Kv (.sl (List.replicate 16 obk)) (g 49) w from ⟨some ⟨B, 0, none⟩, 17, h, HS.out 16 (by omega) w hb⟩) -- 25
          · have h : Kv (.bat 1 (List.replicate 16 obk)) (g 50) w := hd ⟨25, .data⟩ (by simp) rfl; exact st_row rfl (by omega) h -- 26
          · exact st_mv _ (by omega) h1 rfl -- 27
          · have h : Kv (.str lng) (g 52) w := hd ⟨27, .data⟩ (by simp) rfl; exact st_op1 (by omega) h -- 28
          · have h : Kv (.op oll) (g 53) w := hd ⟨28, .data⟩ (by simp) rfl; exact st_sl (by omega) h -- 29
          · have h : Kv (.sl [oll]) (g 54) w := hd ⟨29, .data⟩ (by simp) rfl; exact st_bat rfl (by omega) h -- 30
          · have h : Kv (.bat 1 [oll]) (g 55) w := hd ⟨30, .data⟩ (by simp) rfl; exact st_row rfl (by omega) h -- 31
          · exact st_mv _ (by omega) h2 rfl -- 32
          · have h : Kv (.eq (slc B 17)) (g 57) w := hd ⟨32, .data⟩ (by simp) rfl; exact st_cut 1 rfl (by omega) (by omega) h -- 33
          · have h : Kv (.eq (slc B 1)) (g 58) w := hd ⟨33, .data⟩ (by simp) rfl; exact st_bat rfl (by omega) (show Kv (.sl (List.replicate 1 obk)) (g 58) w from ⟨some ⟨B, 0, none⟩, 17, h, HS.out 1 (by omega) w hb⟩) -- 34
          · have h : Kv (.bat 9223372036854775808 (List.replicate 1 obk)) (g 59) w := hd ⟨34, .data⟩ (by simp) rfl; exact st_row rfl (by omega) h -- 35
          · exact st_mv _ (by omega) h2 rfl -- 36
          · have h : Kv (.eq (slc B 17)) (g 61) w := hd ⟨36, .data⟩ (by simp) rfl; exact st_cut 2 rfl (by omega) (by omega) h -- 37
          · have h : Kv (.eq (slc B 2)) (g 62) w := hd ⟨37, .data⟩ (by simp) rfl; exact st_bat rfl (by omega) (show Kv (.sl (List.replicate 2 obk)) (g 62) w from ⟨some ⟨B, 0, none⟩, 17, h, HS.out 2 (by omega) w hb⟩) -- 38
          · have h : Kv (.bat 9223372036854775808 (List.replicate 2 obk)) (g 63) w := hd ⟨38, .data⟩ (by simp) rfl; exact st_row rfl (by omega) h -- 39
          · exact st_mv _ (by omega) h2 rfl -- 40
          · have h : Kv (.eq (slc B 17)) (g 65) w := hd ⟨40, .data⟩ (by simp) rfl; exact st_cut 2 rfl (by omega) (by omega) h -- 41
          · have h : Kv (.eq (slc B 2)) (g 66) w := hd ⟨41, .data⟩ (by simp) rfl; exact st_bat rfl (by omega) (show Kv (.sl (List.replicate 2 obk)) (g 66) w from ⟨some ⟨B, 0, none⟩, 17, h, HS.out 2 (by omega) w hb⟩) -- 42
          · have h : Kv (.bat 18446744073709551615 (List.replicate 2 obk)) (g 67) w := hd ⟨42, .data⟩ (by simp) rfl; exact st_row rfl (by omega) h -- 43
          · exact st_rows (by omega) (hd ⟨1, .data⟩ (by simp) rfl) (hd ⟨5, .data⟩ (by simp) rfl) (hd ⟨9, .data⟩ (by simp) rfl) (hd ⟨13, .data⟩ (by simp) rfl) (hd ⟨19, .data⟩ (by simp) rfl) (hd ⟨22, .data⟩ (by simp) rfl) (hd ⟨26, .data⟩ (by simp) rfl) (hd ⟨31, .data⟩ (by simp) rfl) (hd ⟨35, .data⟩ (by simp) rfl) (hd ⟨39, .data⟩ (by simp) rfl) (hd ⟨43, .data⟩ (by simp) rfl) -- 44
          · have h : Kv .rows (g 69) w := hd ⟨44, .data⟩ (by simp) rfl; exact st_asg _ (by omega) rfl h -- 45
        · intro g W hk hb hv
          have hR : Kv .rows (g 4) W := hv 45 (by decide)
          change _ at *
          go_wp2_with fail
          refine Met.intro ?_
          go_step
          refine ⟨g 4, g 25, g 26, g 27, g 28, g 29, g 30, g 31, g 32, g 33, g 34, g 35, g 36, g 37, g 38, g 39, g 40, g 41, g 42, g 43, g 44, g 45, g 46, g 47, g 48, g 49, g 50, g 51, g 52, g 53, g 54, g 55, g 56, g 57, g 58, g 59, g 60, g 61, g 62, g 63, g 64, g 65, g 66, g 67, g 68, g 69, g 70, g 71, g 72, g 73, g 74, g 75, g 76, g 77, g 78, g 79, g 80, g 81, g 82, g 83, g 84, g 85, g 86, g 87, g 88, g 89, g 90, g 91, g 92, g 93, g 94, g 95, g 96, g 97, g 98, g 99, g 100, g 101, g 102, g 103, g 104, g 105, g 106, g 107, g 108, g 109, g 110, g 111, g 112, g 113, g 114, g 115, g 116, g 117, g 118, g 119, g 120, g 121, g 122, g 123, g 124, g 125, g 126, g 127, g 128, g 129, g 130, g 131, g 132, g 133, g 134, g 135, g 136, g 137, g 138, g 139, g 140, g 141, g 142, g 143, g 144, g 145, g 146, g 147, g 148, ⟨hR, hb⟩, ?_⟩
          refine (congrArg (fun l => Act.mk (List.toArray (List.map g l)) []) (show List.range 149 = [0, 1, 2, 3, 4, 5, 6, 7, 8, 9, 10, 11, 12, 13, 14, 15, 16, 17, 18, 19, 20, 21, 22, 23, 24, 25, 26, 27, 28, 29, 30, 31, 32, 33, 34, 35, 36, 37, 38, 39, 40, 41, 42, 43, 44, 45, 46, 47, 48, 49, 50, 51, 52, 53, 54, 55, 56, 57, 58, 59, 60, 61, 62, 63, 64, 65, 66, 67, 68, 69, 70, 71, 72, 73, 74, 75, 76, 77, 78, 79, 80, 81, 82, 83, 84, 85, 86, 87, 88, 89, 90, 91, 92, 93, 94, 95, 96, 97, 98, 99, 100, 101, 102, 103, 104, 105, 106, 107, 108, 109, 110, 111, 112, 113, 114, 115, 116, 117, 118, 119, 120, 121, 122, 123, 124, 125, 126, 127, 128, 129, 130, 131, 132, 133, 134, 135, 136, 137, 138, 139, 140, 141, 142, 143, 144, 145, 146, 147, 148] from rfl)).trans ?_
          simp only [List.map_cons, List.map_nil]
          refine congrArg (fun l => Act.mk (List.toArray l) []) ?_
          iterate 149 (refine List.cons_eq_cons.2 ⟨by first | rfl | exact hk _ rfl, ?_⟩)
          rfl
      case rest =>
        subst hgB
        obtain ⟨⟨b, rfl, hbl, hrows⟩, hbw⟩ := hcut
        have HRW := Lib.hid hrows
        have HBL := Lib.hid hbl
        have HBW := Lib.hid (Below.next HB.out hbw)
        clear hbw hrows hbl HS HB
        go_wp2_with fail
        go_loopw [5] (fun i wx => ∃ k : Nat, k ≤ 11 ∧ i = .int .i64 k ∧ Hid (Below wc.heap.size wc wx)) (fun i _ => 11 - (intOf i).toNat)
        case atStart => exact ⟨0, by omega, rfl, Lib.hid (Below.refl _ _)⟩
        case round =>
          obtain ⟨k, hk, rfl, HX⟩ := hrel
          by_cases hlt2 : k < 11
          · obtain ⟨ao, cap, c0, c1, c2, hs⟩ := HRW.out k hlt2
            have d0 := (HX.out.cell (p := ⟨b, k * 3, none⟩) HBL.out).trans c0
            have d1 := (HX.out.cell (p := ⟨b, k * 3 + 1, none⟩) HBL.out).trans c1
            have d2 := (HX.out.cell (p := ⟨b, k * 3 + 2, none⟩) HBL.out).trans c2
            have hs1 := hs.below HX.out
            have hck := rws_chk k hlt2
            have hsq := rws_seq k hlt2
            clear c0 c1 c2 hs
            generalize rws.getD k rwd = r at *
            obtain ⟨seq, l, e⟩ := r
            dsimp only at d0 d1 d2 hs1 hck hsq
            have HBk : Hid (b < wr.heap.size) := Lib.hid (Nat.lt_of_lt_of_le HBL.out HX.out.size)
            have HE : Hid (∀ W, SeesO W (.slice ao l.length cap) l → Calls Try.prog 9 #[.agg #[.int .u64 seq, .slice ao l.length cap]] W fun x w' => (∃ t : ByteArray, x = .returned (.tuple #[.string t, .int .i64 e])) ∧ Below W.heap.size W w') := Lib.hid (fun W h => by
              have := encode_any seq ao l.length cap l W h hsq
              rw [hck] at this
              refine this.mono ?_
              rintro x w' ⟨rfl, hb⟩
              exact ⟨⟨_, rfl⟩, hb⟩)
            have HC : Hid (∀ W, SeesO W (.slice ao l.length cap) l → Calls Try.prog 10 #[.agg #[.int .u64 seq, .slice ao l.length cap]] W (Gives (.int .i64 e) W)) := Lib.hid (fun W h => by
              have := check_any seq ao l.length cap l W h hsq
              rw [hck] at this
              exact this)
            have HS1 := Lib.hid hs1
            clear hs1 hck hsq
            generalize l.length = n at *
            go_wp2_with fail
            refine (HE.out _ HS1.out).mono ?_
            rintro x w1 ⟨⟨t, rfl⟩, hb1⟩
            have d0 := (hb1.cell (p := ⟨b, k * 3, none⟩) HBk.out).trans d0
            have d1 := (hb1.cell (p := ⟨b, k * 3 + 1, none⟩) HBk.out).trans d1
            have d2 := (hb1.cell (p := ⟨b, k * 3 + 2, none⟩) HBk.out).trans d2
            have HX1 := Lib.hid (Below.next HX.out hb1)
            have HS2 := Lib.hid (HS1.out.below hb1)
            have HBk1 : Hid (b < w1.heap.size) := Lib.hid (Nat.lt_of_lt_of_le HBk.out hb1.size)
            clear hb1
            go_wp2_with fail
            have HS3 : Hid (SeesO w1.drew (.slice ao n cap) l) := Lib.hid (HS2.out.below ((Below.refl _ _).drew))
            go_region_held3 (fun w' => w'.cell? ⟨b, k * 3, none⟩ = some (.int .u64 seq) ∧ w'.cell? ⟨b, k * 3 + 1, none⟩ = some (.slice ao n cap) ∧ w'.cell? ⟨b, k * 3 + 2, none⟩ = some (.int .i64 e))
              (first
                | go_keep
                | (go_split_ands
                   refine ⟨?_, ?_, ?_⟩
                   · exact (hb2.cell (p := ⟨b, k * 3, none⟩) HBk1.out).trans d0
                   · exact (hb2.cell (p := ⟨b, k * 3 + 1, none⟩) HBk1.out).trans d1
                   · exact (hb2.cell (p := ⟨b, k * 3 + 2, none⟩) HBk1.out).trans d2))
              (first
                | (go_at_call 10; refine (HC.out _ HS3.out).mono ?_; rintro x w2 ⟨rfl, hb2⟩))
            have HX2 := Lib.hid (Below.next HX1.out.drew hb2)
            clear hb2
            go_wp2_with fail
            go_roundw
            case rel => exact ⟨k + 1, by omega, by go_num, HX2⟩
            case measure => simp [intOf]; omega
          · obtain rfl : k = 11 := by omega
            have e2 : ¬ ((11 : Nat) : Int) < 11 := by omega
            have HBW1 := Lib.hid (Below.next HBW.out HX.out)
            clear HX HBW HRW HBL
            go_wp2_with fail
            refine (smallB_any _).mono ?_
            rintro e w1 ⟨⟨ao, cap, rfl, hs⟩, hb1⟩
            have HB1 := Lib.hid (Below.next HBW1.out hb1)
            have HE : Hid (∀ W, SeesO W (.slice ao 2 cap) smallOps → Calls Try.prog 9 #[.agg #[.int .u64 7, .slice ao 2 cap]] W (Told (Bt.encl 7 smallOps) 0 W)) := Lib.hid (fun W h => encode_yes 7 ao 2 cap smallOps W h (by omega) small_chk)
            rw [small_encl] at HE
            have HS := Lib.hid hs
            clear hs hb1 HBW1
            unfold batV
            go_wp2_with fail
            refine (HE.out _ HS.out).mono ?_
            rintro e w2 ⟨rfl, hb2⟩
            have HB2 := Lib.hid (Below.next HB1.out hb2)
            clear hb2 HB1 HE HS
            go_wp2_with fail
            refine (dec_none _ short_none (by decide) _).mono ?_
            rintro e w3 ⟨rfl, hb3⟩
            have HB3 := Lib.hid (Below.next HB2.out hb3)
            clear hb3 HB2
            go_wp2_with fail
            refine (dec_none _ more_none (by decide) _).mono ?_
            rintro e w4 ⟨rfl, hb4⟩
            have HB4 := Lib.hid (Below.next (Below.next_alloc HB3.out _) hb4)
            clear hb4 HB3
            go_wp2_with fail
            refine (last_five _).mono ?_
            rintro e w5 ⟨rfl, hb5⟩
            have HB5 := Lib.hid (Below.next (Below.next_alloc HB4.out _) hb5)
            clear hb5 HB4
            go_wp2_with fail
            refine (no_entries _).mono ?_
            rintro e w6 ⟨⟨ao6, cap6, rfl⟩, hb6⟩
            have HB6 := Lib.hid (Below.next HB5.out hb6)
            clear hb6 HB5
            go_wp2_with fail
            refine (awake_any _).mono ?_
            rintro e w7 ⟨rfl, hb7⟩
            have HB7 := Lib.hid (Below.next HB6.out hb7)
            clear hb7 HB6
            go_wp2_with fail
            go_ret
            exact ⟨rfl, HB7.out⟩

end Go.Proofs.Ytohfjibhfbcanaa
