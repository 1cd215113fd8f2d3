/- The walk of EditLong. -/
import Derived.Test.YtlhokfildhcdhaaEditOnly
import Derived.Deep.OwnRows
import Derived.Laws.MakeOwn
import Derived.Deep.RegionLaw
namespace Go.Proofs.Ytlhokfildhcdhaa
open Go.RowKit Sk
set_option linter.unusedVariables false

/-- The cells of the long edit, as far as k tables. -/
def cellT (r : Nat) : Value := (cellsTb Ed.t0).getD r undef
def cellZ (r : Nat) : Value := (#[Value.int .u64 0, .int .i64 0, .int .i64 0, .int .i64 0, .string ⟨#[]⟩, .string ⟨#[]⟩, .int .u64 0, .int .u64 0] : Array Value)[r]!
def lgF (k i : Nat) : Value := if i / 8 < k then cellT (i % 8) else cellZ (i % 8)

theorem lgF_new (k i : Nat) : (if i = k * 8 + 7 then Value.int .u64 9 else if i = k * 8 + 6 then Value.int .u64 5 else if i = k * 8 + 5 then Value.string ⟨#[98]⟩ else if i = k * 8 + 4 then Value.string ⟨#[97]⟩ else if i = k * 8 + 3 then Value.int .i64 40 else if i = k * 8 + 2 then Value.int .i64 2 else if i = k * 8 + 1 then Value.int .i64 1 else if i = k * 8 then Value.int .u64 3 else lgF k i) = lgF (k + 1) i := by
  by_cases h : i / 8 = k
  · have h8 : i % 8 < 8 := Nat.mod_lt _ (by omega)
    have e : i = k * 8 + i % 8 := by omega
    have hr : lgF (k + 1) i = cellT (i % 8) := by unfold lgF; rw [if_pos (by omega)]
    rw [hr]
    generalize i % 8 = r at *
    subst e
    match r, h8 with
    | 0, _ => simp [cellT, cellsTb, Ed.t0]
    | 1, _ => simp [cellT, cellsTb, Ed.t0]
    | 2, _ => simp [cellT, cellsTb, Ed.t0]
    | 3, _ => simp [cellT, cellsTb, Ed.t0]
    | 4, _ => simp [cellT, cellsTb, Ed.t0]
    | 5, _ => simp [cellT, cellsTb, Ed.t0]
    | 6, _ => simp [cellT, cellsTb, Ed.t0]
    | 7, _ => simp [cellT, cellsTb, Ed.t0]
  · rw [if_neg (by omega), if_neg (by omega), if_neg (by omega), if_neg (by omega), if_neg (by omega), if_neg (by omega), if_neg (by omega), if_neg (by omega)]
    unfold lgF
    by_cases h2 : i / 8 < k
    · rw [if_pos h2, if_pos (by omega)]
    · rw [if_neg h2, if_neg (by omega)]
theorem rep_getD (m i : Nat) (h : i < m) : (List.replicate m Ed.t0).getD i tbd = Ed.t0 := by simp [h]
theorem lg_sees {w : World} {B n : Nat} (h : w.rowIs B 31 (8 * n) (lgF n)) (m cap : Nat) (hm : m ≤ n) : SeesTb w (.slice (some ⟨B, 0, none⟩) m cap) (List.replicate m Ed.t0) := by
  by_cases h0 : m = 0
  · subst h0; exact Or.inl ⟨rfl, _, _, rfl⟩
  refine Or.inr ⟨B, 0, cap, by rw [List.length_replicate], h.lt, fun i hi => ?_⟩
  rw [List.length_replicate] at hi
  rw [rep_getD m i hi, Nat.zero_add]
  have c : ∀ r, r < 8 → w.cell? ⟨B, i * 8 + r, none⟩ = some (cellT r) := fun r hr => by
    rw [h.cell (i := i * 8 + r) (by omega)]
    unfold lgF
    rw [if_pos (by omega), show (i * 8 + r) % 8 = r by omega]
  exact ⟨c 0 (by omega), c 1 (by omega), c 2 (by omega), c 3 (by omega), c 4 (by omega), c 5 (by omega), c 6 (by omega), c 7 (by omega)⟩
theorem rows_rep : ∀ m : Nat, ((List.replicate m Ed.t0).flatMap Ed.tbRow).length = 10 * m
  | 0 => rfl
  | m + 1 => by
    have h : (Ed.tbRow Ed.t0).length = 10 := by decide +kernel
    rw [List.replicate_succ, List.flatMap_cons, List.length_append, rows_rep m, h]; omega
def repE (m : Nat) : Edt := ⟨List.replicate m Ed.t0, [], 0, 0, 0⟩
theorem rep_chk (m : Nat) : Ed.chk (repE m).add (repE m).drop = 0 := by
  unfold Ed.chk
  rw [if_pos]
  rw [Bool.and_eq_true]
  refine ⟨?_, rfl⟩
  rw [List.all_eq_true]
  intro t ht
  have : t = Ed.t0 := (List.mem_replicate.1 ht).2
  subst this
  decide +kernel
theorem rep_in (m : Nat) : Ed.In (repE m) := by
  refine ⟨fun t ht => ?_, by simp [repE], by simp [repE], by simp [repE], by simp [repE]⟩
  have : t = Ed.t0 := (List.mem_replicate.1 ht).2
  subst this
  exact Ed.in0.1 _ (by simp [Ed.e0])
theorem rep_len (m : Nat) : (Ed.enc (repE m)).length = (Nm.row m).length + 10 * m + 4 := by
  have h4 : (Nm.row 0).length = 1 := by decide +kernel
  unfold Ed.enc repE
  simp only [List.length_append, rows_rep, List.length_replicate, List.length_nil, varl, List.flatMap_nil, List.flatMap_cons, h4]
  omega

theorem make_tbs (N : Nat) (hN : N ≤ 100000) (w : World) :
    ∃ M : Array Value, (Instr.makeSlice 25 (.int .i64 N) (.int .i64 N)).run Try.prog w = .ok (.slice (some ⟨w.heap.size, 0, none⟩) N N) (w.alloc (.cells M 31)) ∧ (w.alloc (.cells M 31)).rowIs w.heap.size 31 (8 * N) (lgF 0) := by
  obtain ⟨i0, hi, hz0, hz1, hz2⟩ := info_parts info_tb
  have h := run_make (P := Try.prog) w 25 31 i0 _ Try.underlying25 hi hz0 .i64 .i64 N N (by omega) (by omega) (by rw [hz2]; omega) (by omega)
  rw [Int.toNat_natCast] at h
  refine ⟨_, h, ?_⟩
  have hs : (madeCells (Value.agg #[Value.int .u64 0, .int .i64 0, .int .i64 0, .int .i64 0, .string ⟨#[]⟩, .string ⟨#[]⟩, .int .u64 0, .int .u64 0]).cells (N * i0.size)).size = 8 * N := by
    rw [hz1]; simp [madeCells]; omega
  have := World.rowIs_alloc w (madeCells (Value.agg #[Value.int .u64 0, .int .i64 0, .int .i64 0, .int .i64 0, .string ⟨#[]⟩, .string ⟨#[]⟩, .int .u64 0, .int .u64 0]).cells (N * i0.size)) 31 (lgF 0) (fun i hi => by
    rw [hs] at hi
    have e1 : lgF 0 i = cellZ (i % 8) := by unfold lgF; rw [if_neg (by omega)]
    rw [e1, hz1]
    have ei : i < N * 8 := by omega
    simp only [madeCells, Array.getElem?_map, Array.getElem?_range, if_pos ei, Option.map_some]
    rfl)
  rw [hs] at this
  exact this

set_option maxRecDepth 100000 in
set_option maxHeartbeats 8000000 in
theorem long_walk (w : World) :
    Calls Try.prog 4 #[] w (Gives (.bool true) w) := by
  obtain ⟨N, hN⟩ : ∃ N : Nat, N = 60000 := ⟨_, rfl⟩
  have hNI : (N : Int) = 60000 := by omega
  have HN := Lib.hid hN
  obtain ⟨M, hmk, hrow⟩ := make_tbs N (by omega) w
  rw [hNI] at hmk
  have HROW := Lib.hid hrow
  have HB1 : Hid (Below w.heap.size w (w.alloc (.cells M 31))) := (Below.refl _ _).alloc (Nat.le_refl _) _
  have hsz1 : (w.alloc (.cells M 31)).heap.size = w.heap.size + 1 := by simp
  clear hN hrow
  generalize w.alloc (.cells M 31) = w1 at *
  go_enter Try.func4, Try.ntmps4
  go_wp2_with fail
  clear hmk
  have HX1 : Hid (Ex (w1.alloc (.cells #[.slice (some ⟨w.heap.size, 0, none⟩) N N, .slice none 0 0, .int .u64 0, .int .u64 0, .int .u64 0] 29)) w1.heap.size (.slice (some ⟨w.heap.size, 0, none⟩) N N) (.slice none 0 0) 0 0 0) := Lib.hid (heap_alloc_new _ _)
  rw [hsz1] at HX1
  have HR1 : Hid ((w1.alloc (.cells #[.slice (some ⟨w.heap.size, 0, none⟩) N N, .slice none 0 0, .int .u64 0, .int .u64 0, .int .u64 0] 29)).rowIs w.heap.size 31 (8 * N) (lgF 0)) := Lib.hid (HROW.out.alloc _)
  have HB2 : Hid (Below w.heap.size w (w1.alloc (.cells #[.slice (some ⟨w.heap.size, 0, none⟩) N N, .slice none 0 0, .int .u64 0, .int .u64 0, .int .u64 0] 29))) := Lib.hid (Below.next_alloc HB1.out _)
  generalize w1.alloc (.cells #[.slice (some ⟨w.heap.size, 0, none⟩) N N, .slice none 0 0, .int .u64 0, .int .u64 0, .int .u64 0] 29) = W at *
  have HTA : Hid (∀ W, Calls Try.prog 12 #[] W (Gives (.agg #[.int .u64 3, .int .i64 1, .int .i64 2, .int .i64 40, .string ⟨#[97]⟩, .string ⟨#[98]⟩, .int .u64 5, .int .u64 9]) W)) := Lib.hid (fun W => table0_any W)
  clear HROW HB1 hsz1
  go_loopw [2] (fun i wr => ∃ k : Nat, (k : Int) ≤ 60000 ∧ i = .int .i64 k ∧ Hid (wr.rowIs w.heap.size 31 (8 * N) (lgF k)) ∧ Hid (Below w.heap.size w wr) ∧ Hid (Ex wr (w.heap.size + 1) (.slice (some ⟨w.heap.size, 0, none⟩) N N) (.slice none 0 0) 0 0 0)) (fun i _ => (60000 - intOf i).toNat)
  case atStart => exact ⟨0, by omega, rfl, HR1, HB2, HX1⟩
  case round =>
    obtain ⟨k, hk, rfl, HR, HB, HX⟩ := hrel
    clear HR1 HB2 HX1
    by_cases hlt : (k : Int) < 60000
    · have HK : Hid (∀ v, Below wr.drew.heap.size wr.drew v → (v.rowIs w.heap.size 31 (8 * N) (lgF k)) ∧ (Ex v (w.heap.size + 1) (.slice (some ⟨w.heap.size, 0, none⟩) N N) (.slice none 0 0) 0 0 0)) := Lib.hid (fun v hb => ⟨HR.out.of_block (hb.block _ HR.out.lt), kept_block (w := wr.drew) HX.out hb⟩)
      have HC : Hid (∀ v : World, v.rowIs w.heap.size 31 (8 * N) (lgF k) → (v.cell? ⟨w.heap.size, k * 8, none⟩ = some (cellZ 0) ∧ v.cell? ⟨w.heap.size, k * 8 + 1, none⟩ = some (cellZ 1) ∧ v.cell? ⟨w.heap.size, k * 8 + 2, none⟩ = some (cellZ 2) ∧ v.cell? ⟨w.heap.size, k * 8 + 3, none⟩ = some (cellZ 3) ∧ v.cell? ⟨w.heap.size, k * 8 + 4, none⟩ = some (cellZ 4) ∧ v.cell? ⟨w.heap.size, k * 8 + 5, none⟩ = some (cellZ 5) ∧ v.cell? ⟨w.heap.size, k * 8 + 6, none⟩ = some (cellZ 6) ∧ v.cell? ⟨w.heap.size, k * 8 + 7, none⟩ = some (cellZ 7)) ∧ ∀ o, v.frozen? ⟨w.heap.size, o, none⟩ = false) := Lib.hid (fun v hr => by
        have c : ∀ r, r < 8 → v.cell? ⟨w.heap.size, k * 8 + r, none⟩ = some (cellZ r) := fun r hr8 => by
          rw [hr.cell (i := k * 8 + r) (by have := HN.out; omega)]
          unfold lgF
          rw [if_neg (by omega), show (k * 8 + r) % 8 = r by omega]
        exact ⟨⟨c 0 (by omega), c 1 (by omega), c 2 (by omega), c 3 (by omega), c 4 (by omega), c 5 (by omega), c 6 (by omega), c 7 (by omega)⟩, fun o => hr.frozen o⟩)
      obtain ⟨a0, a1, a2, a3, a4, af, alt⟩ := HX.out.of
      have hkN : (k : Int) < N := by omega
      go_wp2_with fail
      go_region_law (go_simp
                     go_at_call 12
                     refine (HTA.out _).mono ?_
                     rintro r w3 ⟨rfl, hb3⟩
                     obtain ⟨b0, b1, b2, b3, b4, bf, blt⟩ := (HK.out w3 hb3).2.of
                     obtain ⟨⟨e0, e1, e2, e3, e4, e5, e6, e7⟩, ef⟩ := HC.out w3 (HK.out w3 hb3).1)
      all_goals
        have HRN : Hid (World.rowIs ((((((((w3.setCell ⟨w.heap.size, k * 8, none⟩ (.int .u64 3)).setCell ⟨w.heap.size, k * 8 + 1, none⟩ (.int .i64 1)).setCell ⟨w.heap.size, k * 8 + 2, none⟩ (.int .i64 2)).setCell ⟨w.heap.size, k * 8 + 3, none⟩ (.int .i64 40)).setCell ⟨w.heap.size, k * 8 + 4, none⟩ (.string ⟨#[97]⟩)).setCell ⟨w.heap.size, k * 8 + 5, none⟩ (.string ⟨#[98]⟩)).setCell ⟨w.heap.size, k * 8 + 6, none⟩ (.int .u64 5)).setCell ⟨w.heap.size, k * 8 + 7, none⟩ (.int .u64 9)) w.heap.size 31 (8 * N) (lgF (k + 1))) := Lib.hid ((World.rowIs.set (World.rowIs.set (World.rowIs.set (World.rowIs.set (World.rowIs.set (World.rowIs.set (World.rowIs.set (World.rowIs.set (HK.out w3 hb3).1 (k * 8) (.int .u64 3)) (k * 8 + 1) (.int .i64 1)) (k * 8 + 2) (.int .i64 2)) (k * 8 + 3) (.int .i64 40)) (k * 8 + 4) (.string ⟨#[97]⟩)) (k * 8 + 5) (.string ⟨#[98]⟩)) (k * 8 + 6) (.int .u64 5)) (k * 8 + 7) (.int .u64 9)).congr (fun i hi => lgF_new k i))
        have HBN : Hid (Below w.heap.size w ((((((((w3.setCell ⟨w.heap.size, k * 8, none⟩ (.int .u64 3)).setCell ⟨w.heap.size, k * 8 + 1, none⟩ (.int .i64 1)).setCell ⟨w.heap.size, k * 8 + 2, none⟩ (.int .i64 2)).setCell ⟨w.heap.size, k * 8 + 3, none⟩ (.int .i64 40)).setCell ⟨w.heap.size, k * 8 + 4, none⟩ (.string ⟨#[97]⟩)).setCell ⟨w.heap.size, k * 8 + 5, none⟩ (.string ⟨#[98]⟩)).setCell ⟨w.heap.size, k * 8 + 6, none⟩ (.int .u64 5)).setCell ⟨w.heap.size, k * 8 + 7, none⟩ (.int .u64 9))) := Lib.hid (Below.setCell (Below.setCell (Below.setCell (Below.setCell (Below.setCell (Below.setCell (Below.setCell (Below.setCell (Below.next HB.out.drew hb3) (Nat.le_refl _) _) (Nat.le_refl _) _) (Nat.le_refl _) _) (Nat.le_refl _) _) (Nat.le_refl _) _) (Nat.le_refl _) _) (Nat.le_refl _) _) (Nat.le_refl _) _)
        have HXN : Hid (Ex ((((((((w3.setCell ⟨w.heap.size, k * 8, none⟩ (.int .u64 3)).setCell ⟨w.heap.size, k * 8 + 1, none⟩ (.int .i64 1)).setCell ⟨w.heap.size, k * 8 + 2, none⟩ (.int .i64 2)).setCell ⟨w.heap.size, k * 8 + 3, none⟩ (.int .i64 40)).setCell ⟨w.heap.size, k * 8 + 4, none⟩ (.string ⟨#[97]⟩)).setCell ⟨w.heap.size, k * 8 + 5, none⟩ (.string ⟨#[98]⟩)).setCell ⟨w.heap.size, k * 8 + 6, none⟩ (.int .u64 5)).setCell ⟨w.heap.size, k * 8 + 7, none⟩ (.int .u64 9)) (w.heap.size + 1) (.slice (some ⟨w.heap.size, 0, none⟩) N N) (.slice none 0 0) 0 0 0) := Lib.hid ((setCell_kept _ ⟨w.heap.size, k * 8 + 7, none⟩ _ (by simp)).trans ((setCell_kept _ ⟨w.heap.size, k * 8 + 6, none⟩ _ (by simp)).trans ((setCell_kept _ ⟨w.heap.size, k * 8 + 5, none⟩ _ (by simp)).trans ((setCell_kept _ ⟨w.heap.size, k * 8 + 4, none⟩ _ (by simp)).trans ((setCell_kept _ ⟨w.heap.size, k * 8 + 3, none⟩ _ (by simp)).trans ((setCell_kept _ ⟨w.heap.size, k * 8 + 2, none⟩ _ (by simp)).trans ((setCell_kept _ ⟨w.heap.size, k * 8 + 1, none⟩ _ (by simp)).trans ((setCell_kept _ ⟨w.heap.size, k * 8, none⟩ _ (by simp)).trans ((HK.out w3 hb3).2)))))))))
        clear hb3 HK HC HR HB HX b0 b1 b2 b3 b4 bf blt e0 e1 e2 e3 e4 e5 e6 e7 ef a0 a1 a2 a3 a4 af alt
        generalize ((((((((w3.setCell ⟨w.heap.size, k * 8, none⟩ (.int .u64 3)).setCell ⟨w.heap.size, k * 8 + 1, none⟩ (.int .i64 1)).setCell ⟨w.heap.size, k * 8 + 2, none⟩ (.int .i64 2)).setCell ⟨w.heap.size, k * 8 + 3, none⟩ (.int .i64 40)).setCell ⟨w.heap.size, k * 8 + 4, none⟩ (.string ⟨#[97]⟩)).setCell ⟨w.heap.size, k * 8 + 5, none⟩ (.string ⟨#[98]⟩)).setCell ⟨w.heap.size, k * 8 + 6, none⟩ (.int .u64 5)).setCell ⟨w.heap.size, k * 8 + 7, none⟩ (.int .u64 9)) = w4 at *
        go_wp2_with fail
        go_roundw
        case rel => exact ⟨k + 1, by omega, by go_num, HRN, HBN, HXN⟩
        case measure => simp [intOf]; omega
    · obtain rfl : N = k := by omega
      obtain ⟨a0, a1, a2, a3, a4, af, alt⟩ := HX.out.of
      obtain ⟨S, hSs, hSe⟩ : ∃ S : ByteArray, S.size = 10007 ∧ Ed.encode (repE 1000) = (S.data.toList, 0) := by
        refine ⟨⟨(Ed.enc (repE 1000)).toArray⟩, ?_, ?_⟩
        · rw [size_mk, rep_len]
          have : (Nm.row 1000).length = 3 := by decide +kernel
          omega
        · unfold Ed.encode
          have : (Nm.row 1000).length = 3 := by decide +kernel
          rw [if_pos (rep_chk 1000), if_neg (by unfold Ed.long; rw [rep_len, this]; simp)]
      have hE2 : Ed.encode (repE N) = ([], 3) := by
        unfold Ed.encode
        have hn := HN.out
        rw [if_pos (rep_chk N), if_pos (by unfold Ed.long; rw [rep_len]; simp; omega)]
      have HE1 : Hid (∀ W, SeesTb W (.slice (some ⟨w.heap.size, 0, none⟩) 1000 N) (List.replicate 1000 Ed.t0) → Calls Try.prog 11 #[.agg #[.slice (some ⟨w.heap.size, 0, none⟩) 1000 N, .slice none 0 0, .int .u64 0, .int .u64 0, .int .u64 0]] W (fun x W' => x = .returned (.tuple #[.string S, .int .i64 0]) ∧ Below W.heap.size W W')) := Lib.hid (fun W h => by
        have := encode_any (some ⟨w.heap.size, 0, none⟩) 1000 N none 0 0 (repE 1000) W h (Or.inl ⟨rfl, _, _, rfl⟩) (by omega) (by omega) (rep_in 1000)
        rw [hSe] at this
        exact this)
      have HE2 : Hid (∀ W, SeesTb W (.slice (some ⟨w.heap.size, 0, none⟩) N N) (List.replicate N Ed.t0) → Calls Try.prog 11 #[.agg #[.slice (some ⟨w.heap.size, 0, none⟩) N N, .slice none 0 0, .int .u64 0, .int .u64 0, .int .u64 0]] W (fun x W' => x = .returned (.tuple #[.string ⟨#[]⟩, .int .i64 3]) ∧ Below W.heap.size W W')) := Lib.hid (fun W h => by
        have := encode_any (some ⟨w.heap.size, 0, none⟩) N N none 0 0 (repE N) W h (Or.inl ⟨rfl, _, _, rfl⟩) (by have := HN.out; omega) (by omega) (rep_in N)
        rw [hE2] at this
        exact this)
      have HSZ : Hid (S.size = 10007) := Lib.hid hSs
      have hSi : (S.size : Int) = 10007 := by omega
      clear hSs hSe hE2
      go_wp2_with fail
      refine (HE1.out _ (lg_sees HR.out 1000 N (by have := HN.out; omega))).mono ?_
      rintro r w4 ⟨rfl, hb4⟩
      have HB4 : Hid (Below w.heap.size w w4) := Lib.hid (Below.next HB.out hb4)
      have HR4 : Hid (w4.rowIs w.heap.size 31 (8 * N) (lgF N)) := Lib.hid (HR.out.of_block (hb4.block _ HR.out.lt))
      have hx4 : Ex w4 (w.heap.size + 1) (.slice (some ⟨w.heap.size, 0, none⟩) N N) (.slice none 0 0) 0 0 0 := kept_block HX.out hb4
      clear a0 a1 a2 a3 a4 af alt hb4 HB HR HX
      obtain ⟨a0, a1, a2, a3, a4, af, alt⟩ := hx4.of
      go_wp2_with fail
      refine (HE2.out _ (lg_sees HR4.out N N (Nat.le_refl _))).mono ?_
      rintro r w5 ⟨rfl, hb5⟩
      have HB5 : Hid (Below w.heap.size w w5) := Lib.hid (Below.next HB4.out hb5)
      clear a0 a1 a2 a3 a4 af alt hb5 hx4 HR4
      obtain ⟨M2, hM2⟩ : ∃ M2 : Nat, M2 = 524288 := ⟨_, rfl⟩
      have hMI : (M2 : Int) = 524288 := by omega
      have HM2 := Lib.hid hM2
      have hmk2 : ∀ W : World, (Instr.makeSlice 42 (.int .i64 524288) (.int .i64 524288)).run Try.prog W = .ok (.slice (some ⟨W.heap.size, 0, none⟩) M2 M2) (W.alloc (.cells (madeCells #[.int .u8 0] M2) 5)) := fun W => by
        have := run_make_row' (P := Try.prog) 42 5 (.int .u8 0) 1 Try.underlying42 info_u8 rfl .i64 .i64 M2 (by omega) (by omega) W
        rw [hMI] at this
        exact this
      obtain ⟨Z, hZs, hcv⟩ : ∃ Z : ByteArray, Z.size = M2 ∧ ∀ W : World, (convert 42 9 (.slice (some ⟨W.heap.size, 0, none⟩) M2 M2)).run Try.prog (W.alloc (.cells (madeCells #[.int .u8 0] M2) 5)) = .ok (.string Z) (W.alloc (.cells (madeCells #[.int .u8 0] M2) 5)) := by
        refine ⟨⟨(List.replicate M2 (0 : UInt8)).toArray⟩, by rw [size_mk, List.length_replicate], fun W => ?_⟩
        have hr := World.rowIs_made W (.int .u8 0) M2 5
        have := run_convert_bytes_back (P := Try.prog) (W.alloc (.cells (madeCells #[.int .u8 0] M2) 5)) 42 9 5 ⟨W.heap.size, 0, none⟩ M2 (List.replicate M2 (0 : UInt8)) Try.underlying42 Try.underlying5 Try.underlying9 (fun j hj => by
          rw [List.length_replicate] at hj
          have ea : (⟨W.heap.size, 0, none⟩ : Addr).add j = ⟨W.heap.size, j, none⟩ := by simp [Addr.add]; exact fun h => h.symm
          rw [ea, hr.cell hj]
          simp)
        rw [List.length_replicate] at this
        exact this
      have HADD : Hid (¬ 9223372036854775807 < (⟨#[0, 0, 0, 0, 0]⟩ : ByteArray).size + Z.size) := Lib.hid (by rw [hZs]; have : (⟨#[0, 0, 0, 0, 0]⟩ : ByteArray).size = 5 := rfl; omega)
      have HD : Hid (∀ W, Calls Try.prog 14 #[.string (⟨#[0, 0, 0, 0, 0]⟩ ++ Z)] W (DecRead none W)) := Lib.hid (fun W => by
        have h5 : (⟨#[0, 0, 0, 0, 0]⟩ : ByteArray).size = 5 := rfl
        exact decode_long _ W (by rw [ByteArray.size_append, hZs, h5]; omega) (by rw [ByteArray.size_append, hZs, h5]; omega))
      have hadd := HADD.out
      clear hM2 hMI hZs
      go_wp2_with fail
      refine (HD.out _).mono ?_
      rintro r w6 ⟨hb6, hcase⟩
      have hr : r = .returned (.tuple #[edV none 0 0 none 0 0 0 0 0, .bool false]) := by
        rcases hcase with ⟨_, h⟩ | ⟨_, _, _, _, _, h, _⟩
        · exact h
        · cases h
      clear hcase
      subst hr
      have HB6 : Hid (Below w.heap.size w w6) := Lib.hid (Below.next (Below.next_alloc HB5.out _) hb6)
      have HAW : Hid (∀ W, Calls Try.prog 18 #[] W (Gives (.bool true) W)) := Lib.hid (fun W => awake_any W)
      clear hb6 hadd hcv hmk2
      unfold edV
      go_wp2_with fail
      refine (HAW.out _).mono ?_
      rintro r w7 ⟨rfl, hb7⟩
      have HB7 : Hid (Below w.heap.size w w7) := Lib.hid (Below.next (Below.next_alloc HB6.out _) hb7)
      clear hb7
      go_wp2_with fail
      go_ret
      exact ⟨rfl, HB7.out⟩

end Go.Proofs.Ytlhokfildhcdhaa
