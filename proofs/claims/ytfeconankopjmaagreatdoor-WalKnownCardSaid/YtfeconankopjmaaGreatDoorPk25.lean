/- Texts on the program's own functions, several in one: WlS. -/
import Derived.Test.YtfeconankopjmaaGreatDoorPk8
import Derived.Test.YtfeconankopjmaaGreatDoorPk2
import Derived.BigFrame
import Derived.RegionTactic
import Derived.ChangeAlike
import Derived.BigQuiet
import Derived.Deep.RegionHeld3

/- slices.Sort over a row of numbers that rises already: nothing is changed. -/
namespace Go.Proofs.YtfeconankopjmaaGreatDoor
set_option linter.unusedVariables false
open Go.RowKit

/-- A row of rising numbers. -/
structure Up (w : World) (g n : Nat) (x : Nat → Nat) : Prop where
  cell : ∀ i, i < n → w.cell? ⟨g, i, none⟩ = some (.int .u64 (x i : Nat))
  up : ∀ i, i + 1 < n → x i ≤ x (i + 1)
  lt : g < w.heap.size
theorem Up.below {w w' : World} {g n : Nat} {x : Nat → Nat} (h : Up w g n x) (hb : Below w.heap.size w w') : Up w' g n x :=
  ⟨fun i hi => (hb.cell (p := ⟨g, i, none⟩) h.lt).trans (h.cell i hi), h.up, Nat.lt_of_lt_of_le h.lt hb.size⟩
theorem Up.mono {w : World} {g n : Nat} {x : Nat → Nat} (h : Up w g n x) (i : Nat) : ∀ j, i + j < n → x i ≤ x (i + j)
  | 0, _ => Nat.le_refl _
  | j + 1, hj => Nat.le_trans (h.mono i j (by omega)) (h.up (i + j) hj)

set_option maxHeartbeats 1000000 in
set_option maxRecDepth 100000 in
theorem isNaN_any (x : Nat) (w : World) : Calls Tryz.prog 183 #[.int .u64 x] w fun e w' => e = .returned (.bool false) ∧ w' = w := by
  go_enter Tryz.func183, Tryz.ntmps183
  go_wp2_with fail
  go_ret
  simp
set_option maxHeartbeats 1000000 in
set_option maxRecDepth 100000 in
theorem less_any (x y : Nat) (w : World) : Calls Tryz.prog 138 #[.int .u64 x, .int .u64 y] w fun e w' => e = .returned (.bool (decide (x < y))) ∧ w' = w := by
  have HX := Lib.hid (isNaN_any x w)
  go_enter Tryz.func138, Tryz.ntmps138
  go_wp2_with fail
  refine HX.out.mono ?_
  rintro e w1 ⟨rfl, rfl⟩
  go_wp2_with fail
  go_ret
  simp

set_option maxHeartbeats 2000000 in
set_option maxRecDepth 100000 in
theorem insertion_any (w : World) (g n cap : Nat) (x : Nat → Nat) (h : Up w g n x) (hn : (n : Int) ≤ 1099511627776) :
    Calls Tryz.prog 132 #[.slice (some ⟨g, 0, none⟩) n cap, .int .i64 0, .int .i64 n] w (Gives (.tuple #[]) w) := by
  have H := Lib.hid h; clear h
  go_enter Tryz.func132, Tryz.ntmps132
  go_wp2_with fail
  go_loopw [6] (fun i wr => ∃ j : Nat, i = .int .i64 ((j : Int) + 1) ∧ (j + 1 ≤ n ∨ n = 0 ∧ j = 0) ∧ Hid (Below w.heap.size w wr)) (fun i _ => n + 1 - (intOf i).toNat)
  case atStart => exact ⟨0, rfl, by omega, Lib.hid (Below.refl _ _)⟩
  case round =>
    obtain ⟨j, rfl, hk2, HB⟩ := hrel
    by_cases hlt : j + 1 < n
    · have hlt2 : (j : Int) + 1 < n := by omega
      have hk0 : (0 : Int) < (j : Int) + 1 := by omega
      have hk1 : (0 : Int) ≤ (j : Int) + 1 := by omega
      have hkt : ((j : Int) + 1).toNat = j + 1 := by omega
      have HU := Lib.hid (H.out.below HB.out)
      have hx : decide (x (j + 1) < x j) = false := by
        have := H.out.up j (by omega)
        simp; omega
      have HL := Lib.hid (fun W => less_any (x (j + 1)) (x j) W)
      rw [hx] at HL
      have hwr : IntKind.i64.wrap (j : Int) = j := by rw [IntKind.wrap_i64] <;> omega
      have HWR := Lib.hid hwr
      have hj0 : (0 : Int) ≤ j := by omega
      have hjn : (j : Int) < n := by omega
      have HJ : Hid (j < n) := Lib.hid (by omega)
      clear hx hwr
      go_wp2_with fail
      go_loopw [7] (fun z wr2 => z = .int .i64 ((j : Int) + 1) ∧ wr2 = wr) (fun _ _ => 0)
      case atStart => exact ⟨rfl, rfl⟩
      case round =>
        obtain ⟨rfl, hw⟩ := hrel
        subst hw
        have c1 : World.cell? _ ⟨g, j + 1, none⟩ = _ := HU.out.cell (j + 1) hlt
        have c0 : World.cell? _ ⟨g, j, none⟩ = _ := HU.out.cell j HJ.out
        go_wp2_with fail
        have hwr := HWR.out
        go_region_held3 (fun w' => w'.cell? ⟨g, j + 1, none⟩ = some (.int .u64 (x (j + 1) : Nat)) ∧ w'.cell? ⟨g, j, none⟩ = some (.int .u64 (x j : Nat)))
          (first
            | go_keep
            | (go_split_ands; refine ⟨?_, ?_⟩ <;> assumption))
          (first
            | (go_at_call 138; refine (HL.out _).mono ?_; rintro e w2 ⟨rfl, rfl⟩))
        have HB2 := Lib.hid HB.out.drew
        clear c1 c0 hwr
        go_wp2_with fail
        go_roundw
        case rel => exact ⟨j + 1, by go_num, by omega, HB2⟩
        case measure => simp [intOf]; omega
    · have hlt2 : ¬ (j : Int) + 1 < n := by omega
      go_wp2_with fail
      go_end0
      exact ⟨rfl, HB.out⟩
set_option maxHeartbeats 2000000 in
set_option maxRecDepth 100000 in
theorem insertion_nil (w : World) :
    Calls Tryz.prog 132 #[.slice none 0 0, .int .i64 0, .int .i64 0] w (Gives (.tuple #[]) w) := by
  go_enter Tryz.func132, Tryz.ntmps132
  go_wp2_with fail
  go_loopw [6] (fun i wr => i = .int .i64 1 ∧ wr = w) (fun i _ => 0)
  case atStart => exact ⟨rfl, rfl⟩
  case round =>
    obtain ⟨rfl, hw⟩ := hrel
    subst hw
    go_wp2_with fail
    go_end0
    exact ⟨rfl, Below.refl _ _⟩

/-! ### the whole sort, of few -/
set_option maxHeartbeats 2000000 in
set_option maxRecDepth 100000 in
theorem pdq_few (w : World) (v : Value) (n : Nat) (hn : (n : Int) ≤ 12) (lim : Int) (h : ∀ W, Below w.heap.size w W → Calls Tryz.prog 132 #[v, .int .i64 0, .int .i64 n] W (Gives (.tuple #[]) W)) :
    Calls Tryz.prog 98 #[v, .int .i64 0, .int .i64 n, .int .i64 lim] w (Gives (.tuple #[]) w) := by
  have H := Lib.hid h; clear h
  have hwr : IntKind.i64.wrap (n : Int) = n := by rw [IntKind.wrap_i64] <;> omega
  go_enter Tryz.func98, Tryz.ntmps98
  go_wp2_with fail
  go_loopw [1, 2, 3, 8, 9] (fun a b l p q wr => a = .int .i64 0 ∧ b = .int .i64 n ∧ l = .int .i64 lim ∧ p = .bool true ∧ q = .bool true ∧ wr = w) (fun _ _ _ _ _ _ => 0)
  case atStart => exact ⟨rfl, rfl, rfl, rfl, rfl, rfl⟩
  case round =>
    obtain ⟨rfl, rfl, rfl, rfl, rfl, hw⟩ := hrel
    subst hw
    go_wp2_with fail
    refine (H.out _ (Below.refl _ _)).mono ?_
    rintro e w1 ⟨rfl, hb⟩
    go_wp2_with fail
    go_end0
    exact ⟨rfl, hb⟩

theorem len_any (x : Nat) (w : World) (hx : (x : Int) ≤ 18446744073709551615) :
    Calls Tryz.prog 99 #[.int .u64 x] w fun e w' => e = .returned (.int .i64 (Lib.bitLen x)) ∧ w = w' := by
  have H := Lib.hid (Bn.len64_any (x : Int) w (by omega) hx)
  go_enter Tryz.func99, Tryz.ntmps99
  go_wp2_with fail
  refine H.out.mono ?_
  rintro e w1 ⟨rfl, rfl⟩
  go_wp2_with fail
  go_ret
  exact ⟨by simp, rfl⟩
set_option maxHeartbeats 2000000 in
set_option maxRecDepth 100000 in
theorem sort_of (w : World) (ao : Option Addr) (n cap : Nat) (hn : (n : Int) ≤ 1099511627776) (h : ∀ W, Below w.heap.size w W → Calls Tryz.prog 98 #[.slice ao n cap, .int .i64 0, .int .i64 n, .int .i64 (Lib.bitLen n)] W (Gives (.tuple #[]) W)) :
    Calls Tryz.prog 47 #[.slice ao n cap] w (Gives (.tuple #[]) w) := by
  have H := Lib.hid h; clear h
  go_enter Tryz.func47, Tryz.ntmps47
  go_wp2_with fail
  refine (len_any n w (by omega)).mono ?_
  rintro e w1 ⟨rfl, hw⟩
  subst hw
  go_wp2_with fail
  refine (H.out _ (Below.refl _ _)).mono ?_
  rintro e w2 ⟨rfl, hb⟩
  go_wp2_with fail
  go_end0
  exact ⟨rfl, hb⟩
/-- No numbers. -/
theorem sort_nil (w : World) : Calls Tryz.prog 47 #[.slice none 0 0] w (Gives (.tuple #[]) w) :=
  sort_of w none 0 0 (by decide) fun W _ => pdq_few W (.slice none 0 0) 0 (by decide) _ fun W2 _ => insertion_nil W2
/-- A few rising numbers. -/
theorem sort_few (w : World) (g n cap : Nat) (x : Nat → Nat) (h : Up w g n x) (hn : n ≤ 12) : Calls Tryz.prog 47 #[.slice (some ⟨g, 0, none⟩) n cap] w (Gives (.tuple #[]) w) :=
  sort_of w (some ⟨g, 0, none⟩) n cap (by omega) fun W hW => pdq_few W _ n (by omega) _ fun W2 h2 => insertion_any W2 g n cap x ((h.below hW).below h2) (by omega)

end Go.Proofs.YtfeconankopjmaaGreatDoor
