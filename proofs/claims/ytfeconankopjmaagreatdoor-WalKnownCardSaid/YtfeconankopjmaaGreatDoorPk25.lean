/- Texts on the program's own functions, several in one: WlS, WlT. -/
import Derived.Test.YtfeconankopjmaaGreatDoorPk8
import Derived.Test.YtfeconankopjmaaGreatDoorPk2
import Derived.BigFrame
import Derived.RegionTactic
import Derived.ChangeAlike
import Derived.BigQuiet
import Derived.Deep.RegionHeld3

/- slices.Sort over a row of numbers that rises already: nothing is changed. -/
namespace Go.Proofs.YtfeconankopjmaaGreatDoor
set_option linter.unusedVariables false
open Go.RowKit

/-- A row of rising numbers. -/
structure Up (w : World) (g n : Nat) (x : Nat → Nat) : Prop where
  cell : ∀ i, i < n → w.cell? ⟨g, i, none⟩ = some (.int .u64 (x i : Nat))
  up : ∀ i, i + 1 < n → x i ≤ x (i + 1)
  lt : g < w.heap.size
theorem Up.below {w w' : World} {g n : Nat} {x : Nat → Nat} (h : Up w g n x) (hb : Below w.heap.size w w') : Up w' g n x :=
  ⟨fun i hi => (hb.cell (p := ⟨g, i, none⟩) h.lt).trans (h.cell i hi), h.up, Nat.lt_of_lt_of_le h.lt hb.size⟩
theorem Up.mono {w : World} {g n : Nat} {x : Nat → Nat} (h : Up w g n x) (i : Nat) : ∀ j, i + j < n → x i ≤ x (i + j)
  | 0, _ => Nat.le_refl _
  | j + 1, hj => Nat.le_trans (h.mono i j (by omega)) (h.up (i + j) hj)

set_option maxHeartbeats 1000000 in
set_option maxRecDepth 100000 in
theorem isNaN_any (x : Nat) (w : World) : Calls Tryz.prog 183 #[.int .u64 x] w fun e w' => e = .returned (.bool false) ∧ w' = w := by
  go_enter Tryz.func183, Tryz.ntmps183
  go_wp2_with fail
  go_ret
  simp
set_option maxHeartbeats 1000000 in
set_option maxRecDepth 100000 in
theorem less_any (x y : Nat) (w : World) : Calls Tryz.prog 138 #[.int .u64 x, .int .u64 y] w fun e w' => e = .returned (.bool (decide (x < y))) ∧ w' = w := by
  have HX := Lib.hid (isNaN_any x w)
  go_enter Tryz.func138, Tryz.ntmps138
  go_wp2_with fail
  refine HX.out.mono ?_
  rintro e w1 ⟨rfl, rfl⟩
  go_wp2_with fail
  go_ret
  simp

set_option maxHeartbeats 2000000 in
set_option maxRecDepth 100000 in
theorem insertion_any (w : World) (g n cap : Nat) (x : Nat → Nat) (h : Up w g n x) (hn : (n : Int) ≤ 1099511627776) :
    Calls Tryz.prog 132 #[.slice (some ⟨g, 0, none⟩) n cap, .int .i64 0, .int .i64 n] w (Gives (.tuple #[]) w) := by
  have H := Lib.hid h; clear h
  go_enter Tryz.func132, Tryz.ntmps132
  go_wp2_with fail
  go_loopw [6] (fun i wr => ∃ j : Nat, i = .int .i64 ((j : Int) + 1) ∧ (j + 1 ≤ n ∨ n = 0 ∧ j = 0) ∧ Hid (Below w.heap.size w wr)) (fun i _ => n + 1 - (intOf i).toNat)
  case atStart => exact ⟨0, rfl, by omega, Lib.hid (Below.refl _ _)⟩
  case round =>
    obtain ⟨j, rfl, hk2, HB⟩ := hrel
    by_cases hlt : j + 1 < n
    · have hlt2 : (j : Int) + 1 < n := by omega
      have hk0 : (0 : Int) < (j : Int) + 1 := by omega
      have hk1 : (0 : Int) ≤ (j : Int) + 1 := by omega
      have hkt : ((j : Int) + 1).toNat = j + 1 := by omega
      have HU := Lib.hid (H.out.below HB.out)
      have hx : decide (x (j + 1) < x j) = false := by
        have := H.out.up j (by omega)
        simp; omega
      have HL := Lib.hid (fun W => less_any (x (j + 1)) (x j) W)
      rw [hx] at HL
      have hwr : IntKind.i64.wrap (j : Int) = j := by rw [IntKind.wrap_i64] <;> omega
      have HWR := Lib.hid hwr
      have hj0 : (0 : Int) ≤ j := by omega
      have hjn : (j : Int) < n := by omega
      have HJ : Hid (j < n) := Lib.hid (by omega)
      clear hx hwr
      go_wp2_with fail
      go_loopw [7] (fun z wr2 => z = .int .i64 ((j : Int) + 1) ∧ wr2 = wr) (fun _ _ => 0)
      case atStart => exact ⟨rfl, rfl⟩
      case round =>
        obtain ⟨rfl, hw⟩ := hrel
        subst hw
        have c1 : World.cell? _ ⟨g, j + 1, none⟩ = _ := HU.out.cell (j + 1) hlt
        have c0 : World.cell? _ ⟨g, j, none⟩ = _ := HU.out.cell j HJ.out
        go_wp2_with fail
        have hwr := HWR.out
        go_region_held3 (fun w' => w'.cell? ⟨g, j + 1, none⟩ = some (.int .u64 (x (j + 1) : Nat)) ∧ w'.cell? ⟨g, j, none⟩ = some (.int .u64 (x j : Nat)))
          (first
            | go_keep
            | (go_split_ands; refine ⟨?_, ?_⟩ <;> assumption))
          (first
            | (go_at_call 138; refine (HL.out _).mono ?_; rintro e w2 ⟨rfl, rfl⟩))
        have HB2 := Lib.hid HB.out.drew
        clear c1 c0 hwr
        go_wp2_with fail
        go_roundw
        case rel => exact ⟨j + 1, by go_num, by omega, HB2⟩
        case measure => simp [intOf]; omega
    · have hlt2 : ¬ (j : Int) + 1 < n := by omega
      go_wp2_with fail
      go_end0
      exact ⟨rfl, HB.out⟩
set_option maxHeartbeats 2000000 in
set_option maxRecDepth 100000 in
theorem insertion_nil (w : World) :
    Calls Tryz.prog 132 #[.slice none 0 0, .int .i64 0, .int .i64 0] w (Gives (.tuple #[]) w) := by
  go_enter Tryz.func132, Tryz.ntmps132
  go_wp2_with fail
  go_loopw [6] (fun i wr => i = .int .i64 1 ∧ wr = w) (fun i _ => 0)
  case atStart => exact ⟨rfl, rfl⟩
  case round =>
    obtain ⟨rfl, hw⟩ := hrel
    subst hw
    go_wp2_with fail
    go_end0
    exact ⟨rfl, Below.refl _ _⟩

/-! ### the whole sort, of few -/
set_option maxHeartbeats 2000000 in
set_option maxRecDepth 100000 in
theorem pdq_few (w : World) (v : Value) (n : Nat) (hn : (n : Int) ≤ 12) (lim : Int) (h : ∀ W, Below w.heap.size w W → Calls Tryz.prog 132 #[v, .int .i64 0, .int .i64 n] W (Gives (.tuple #[]) W)) :
    Calls Tryz.prog 98 #[v, .int .i64 0, .int .i64 n, .int .i64 lim] w (Gives (.tuple #[]) w) := by
  have H := Lib.hid h; clear h
  have hwr : IntKind.i64.wrap (n : Int) = n := by rw [IntKind.wrap_i64] <;> omega
  go_enter Tryz.func98, Tryz.ntmps98
  go_wp2_with fail
  go_loopw [1, 2, 3, 8, 9] (fun a b l p q wr => a = .int .i64 0 ∧ b = .int .i64 n ∧ l = .int .i64 lim ∧ p = .bool true ∧ q = .bool true ∧ wr = w) (fun _ _ _ _ _ _ => 0)
  case atStart => exact ⟨rfl, rfl, rfl, rfl, rfl, rfl⟩
  case round =>
    obtain ⟨rfl, rfl, rfl, rfl, rfl, hw⟩ := hrel
    subst hw
    go_wp2_with fail
    refine (H.out _ (Below.refl _ _)).mono ?_
    rintro e w1 ⟨rfl, hb⟩
    go_wp2_with fail
    go_end0
    exact ⟨rfl, hb⟩

theorem len_any (x : Nat) (w : World) (hx : (x : Int) ≤ 18446744073709551615) :
    Calls Tryz.prog 99 #[.int .u64 x] w fun e w' => e = .returned (.int .i64 (Lib.bitLen x)) ∧ w = w' := by
  have H := Lib.hid (Bn.len64_any (x : Int) w (by omega) hx)
  go_enter Tryz.func99, Tryz.ntmps99
  go_wp2_with fail
  refine H.out.mono ?_
  rintro e w1 ⟨rfl, rfl⟩
  go_wp2_with fail
  go_ret
  exact ⟨by simp, rfl⟩
set_option maxHeartbeats 2000000 in
set_option maxRecDepth 100000 in
theorem sort_of (w : World) (ao : Option Addr) (n cap : Nat) (hn : (n : Int) ≤ 1099511627776) (h : ∀ W, Below w.heap.size w W → Calls Tryz.prog 98 #[.slice ao n cap, .int .i64 0, .int .i64 n, .int .i64 (Lib.bitLen n)] W (Gives (.tuple #[]) W)) :
    Calls Tryz.prog 47 #[.slice ao n cap] w (Gives (.tuple #[]) w) := by
  have H := Lib.hid h; clear h
  go_enter Tryz.func47, Tryz.ntmps47
  go_wp2_with fail
  refine (len_any n w (by omega)).mono ?_
  rintro e w1 ⟨rfl, hw⟩
  subst hw
  go_wp2_with fail
  refine (H.out _ (Below.refl _ _)).mono ?_
  rintro e w2 ⟨rfl, hb⟩
  go_wp2_with fail
  go_end0
  exact ⟨rfl, hb⟩
/-- No numbers. -/
theorem sort_nil (w : World) : Calls Tryz.prog 47 #[.slice none 0 0] w (Gives (.tuple #[]) w) :=
  sort_of w none 0 0 (by decide) fun W _ => pdq_few W (.slice none 0 0) 0 (by decide) _ fun W2 _ => insertion_nil W2
/-- A few rising numbers. -/
theorem sort_few (w : World) (g n cap : Nat) (x : Nat → Nat) (h : Up w g n x) (hn : n ≤ 12) : Calls Tryz.prog 47 #[.slice (some ⟨g, 0, none⟩) n cap] w (Gives (.tuple #[]) w) :=
  sort_of w (some ⟨g, 0, none⟩) n cap (by omega) fun W hW => pdq_few W _ n (by omega) _ fun W2 h2 => insertion_any W2 g n cap x ((h.below hW).below h2) (by omega)

end Go.Proofs.YtfeconankopjmaaGreatDoor

/- slices.Sort over a longer row of numbers that rises already. -/
namespace Go.Proofs.YtfeconankopjmaaGreatDoor
set_option linter.unusedVariables false
set_option linter.unusedSimpArgs false
open Go.RowKit

set_option maxHeartbeats 2000000 in
set_option maxRecDepth 100000 in
theorem order2_any (w : World) (g n cap : Nat) (x : Nat → Nat) (h : Up w g n x) (a b : Int) (ha : 0 ≤ a) (hab : a ≤ b) (hb : b < n) (p : Value) :
    Calls Tryz.prog 205 #[.slice (some ⟨g, 0, none⟩) n cap, .int .i64 a, .int .i64 b, p] w (Gives (.tuple #[.int .i64 a, .int .i64 b]) w) := by
  have c1 := h.cell b.toNat (by omega)
  have c0 := h.cell a.toNat (by omega)
  have hx : decide (x b.toNat < x a.toNat) = false := by
    have := h.mono a.toNat (b.toNat - a.toNat) (by omega)
    rw [show a.toNat + (b.toNat - a.toNat) = b.toNat by omega] at this
    simp; omega
  have HL := Lib.hid (fun W => less_any (x b.toNat) (x a.toNat) W)
  rw [hx] at HL
  have hb0 : 0 ≤ b := by omega
  have han : a < n := by omega
  clear hx h
  go_enter Tryz.func205, Tryz.ntmps205
  go_wp2_with fail
  go_region_held3 (fun w' => w'.cell? ⟨g, b.toNat, none⟩ = some (.int .u64 (x b.toNat : Nat)) ∧ w'.cell? ⟨g, a.toNat, none⟩ = some (.int .u64 (x a.toNat : Nat)))
    (first
      | go_keep
      | (go_split_ands; refine ⟨?_, ?_⟩ <;> assumption))
    (first
      | (go_at_call 138; refine (HL.out _).mono ?_; rintro e w2 ⟨rfl, rfl⟩))
  have HB := Lib.hid (Below.refl w.heap.size w).drew
  clear c1 c0
  go_wp2_with fail
  go_ret2
  exact ⟨rfl, HB.out⟩

set_option maxHeartbeats 2000000 in
set_option maxRecDepth 100000 in
theorem median_any (w : World) (g n cap : Nat) (x : Nat → Nat) (h : Up w g n x) (a b c : Int) (ha : 0 ≤ a) (hab : a ≤ b) (hbc : b ≤ c) (hc : c < n) (p : Value) :
    Calls Tryz.prog 182 #[.slice (some ⟨g, 0, none⟩) n cap, .int .i64 a, .int .i64 b, .int .i64 c, p] w (Gives (.int .i64 b) w) := by
  have H := Lib.hid h
  have H1 := Lib.hid (fun W (hb : Below w.heap.size w W) => order2_any W g n cap x (H.out.below hb) a b ha hab (by omega) p)
  have H2 := Lib.hid (fun W (hb : Below w.heap.size w W) => order2_any W g n cap x (H.out.below hb) b c (by omega) hbc hc p)
  clear h ha hab hbc hc
  go_enter Tryz.func182, Tryz.ntmps182
  go_wp2_with fail
  refine (H1.out _ (Below.refl _ _)).mono ?_
  rintro e w1 ⟨rfl, hb1⟩
  have HB1 := Lib.hid hb1; clear hb1
  go_wp2_with fail
  refine (H2.out _ HB1.out).mono ?_
  rintro e w2 ⟨rfl, hb2⟩
  have HB2 := Lib.hid (Below.next HB1.out hb2); clear hb2
  go_wp2_with fail
  refine (H1.out _ HB2.out).mono ?_
  rintro e w3 ⟨rfl, hb3⟩
  have HB3 := Lib.hid (Below.next HB2.out hb3); clear hb3
  go_wp2_with fail
  go_ret
  exact ⟨rfl, HB3.out⟩

set_option maxHeartbeats 2000000 in
set_option maxRecDepth 100000 in
theorem adjacent_any (w : World) (g n cap : Nat) (x : Nat → Nat) (h : Up w g n x) (a : Int) (ha : 1 ≤ a) (hc : a + 1 < n) (hn : (n : Int) ≤ 1099511627776) (p : Value) :
    Calls Tryz.prog 181 #[.slice (some ⟨g, 0, none⟩) n cap, .int .i64 a, p] w (Gives (.int .i64 a) w) := by
  have H1 := Lib.hid (median_any w g n cap x h (a - 1) a (a + 1) (by omega) (by omega) (by omega) hc p)
  have hw0 : IntKind.i64.wrap (a - 1) = a - 1 := by rw [IntKind.wrap_i64] <;> omega
  have hw1 : IntKind.i64.wrap (a + 1) = a + 1 := by rw [IntKind.wrap_i64] <;> omega
  clear h
  go_enter Tryz.func181, Tryz.ntmps181
  go_wp2_with fail
  refine H1.out.mono ?_
  rintro e w1 ⟨rfl, hb1⟩
  go_wp2_with fail
  go_ret
  exact ⟨rfl, hb1⟩

set_option maxHeartbeats 4000000 in
set_option maxRecDepth 100000 in
theorem pivot_any (w : World) (g n cap : Nat) (x : Nat → Nat) (h : Up w g n x) (h12 : (12 : Int) < n) (hn : (n : Int) ≤ 1099511627776) :
    Calls Tryz.prog 135 #[.slice (some ⟨g, 0, none⟩) n cap, .int .i64 0, .int .i64 n] w fun e w' => (∃ j : Int, e = .returned (.tuple #[.int .i64 j, .int .i64 1])) ∧ Below w.heap.size w w' := by
  have hbx : Below w.heap.size w (w.alloc (.cells #[.int .i64 0] 3)) := (Below.refl _ _).alloc (Nat.le_refl _) _
  have HB0 := Lib.hid (Below.refl (w.alloc (.cells #[.int .i64 0] 3)).heap.size (w.alloc (.cells #[.int .i64 0] 3)))
  have HX := Lib.hid (h.below hbx)
  have hc0 : (w.alloc (.cells #[.int .i64 0] 3)).cell? ⟨w.heap.size, 0, none⟩ = some (.int .i64 0) := by unfold World.cell?; rw [heap_alloc_new]; rfl
  have HC := Lib.hid hc0
  have HBX := Lib.hid hbx
  obtain ⟨p, hp⟩ : ∃ p : Value, p = .pointer (some ⟨w.heap.size, 0, none⟩) := ⟨_, rfl⟩
  obtain ⟨W0, hW⟩ : ∃ W, W = w.alloc (.cells #[.int .i64 0] 3) := ⟨_, rfl⟩
  rw [← hW] at HB0 HX HC HBX
  have HW := Lib.hid hW
  have hl : w.heap.size < W0.heap.size := by rw [hW, World.size_alloc]; omega
  have H8 : (8 : Int) ≤ n := by omega
  have HM := Lib.hid (fun W (hb : Below W0.heap.size W0 W) => median_any W g n cap x (HX.out.below hb) ((n : Int) / 4) ((n : Int) / 4 * 2) ((n : Int) / 4 * 3) (by omega) (by omega) (by omega) (by omega) (.pointer (some ⟨w.heap.size, 0, none⟩)))
  have HA1 := Lib.hid (fun W (hb : Below W0.heap.size W0 W) => adjacent_any W g n cap x (HX.out.below hb) ((n : Int) / 4) (by omega) (by omega) hn (.pointer (some ⟨w.heap.size, 0, none⟩)))
  have HA2 := Lib.hid (fun W (hb : Below W0.heap.size W0 W) => adjacent_any W g n cap x (HX.out.below hb) ((n : Int) / 4 * 2) (by omega) (by omega) hn (.pointer (some ⟨w.heap.size, 0, none⟩)))
  have HA3 := Lib.hid (fun W (hb : Below W0.heap.size W0 W) => adjacent_any W g n cap x (HX.out.below hb) ((n : Int) / 4 * 3) (by omega) (by omega) hn (.pointer (some ⟨w.heap.size, 0, none⟩)))
  clear h hc0 hp p hbx hW
  by_cases h50 : (50 : Int) ≤ n
  · go_enter Tryz.func135, Tryz.ntmps135
    go_wp2_with fail
    rw [← HW.out]
    refine (HA1.out _ HB0.out).mono ?_
    rintro e w1 ⟨rfl, hb1⟩
    have HB1 := Lib.hid hb1; clear hb1
    go_wp2_with fail
    refine (HA2.out _ HB1.out).mono ?_
    rintro e w2 ⟨rfl, hb2⟩
    have HB2 := Lib.hid (Below.next HB1.out hb2); clear hb2
    go_wp2_with fail
    refine (HA3.out _ HB2.out).mono ?_
    rintro e w3 ⟨rfl, hb3⟩
    have HB3 := Lib.hid (Below.next HB2.out hb3); clear hb3
    go_wp2_with fail
    refine (HM.out _ HB3.out).mono ?_
    rintro e w4 ⟨rfl, hb4⟩
    have HB4 := Lib.hid (Below.next HB3.out hb4); clear hb4
    have c0 : w4.cell? ⟨w.heap.size, 0, none⟩ = some (.int .i64 0) := (HB4.out.cell (p := ⟨w.heap.size, 0, none⟩) hl).trans HC.out
    go_wp2_with fail
    go_ret2
    exact ⟨⟨_, rfl⟩, Below.next HBX.out HB4.out⟩
  · go_enter Tryz.func135, Tryz.ntmps135
    go_wp2_with fail
    rw [← HW.out]
    refine (HM.out _ HB0.out).mono ?_
    rintro e w4 ⟨rfl, hb4⟩
    have HB4 := Lib.hid hb4; clear hb4
    have c0 : w4.cell? ⟨w.heap.size, 0, none⟩ = some (.int .i64 0) := (HB4.out.cell (p := ⟨w.heap.size, 0, none⟩) hl).trans HC.out
    go_wp2_with fail
    go_ret2
    exact ⟨⟨_, rfl⟩, Below.next HBX.out HB4.out⟩

set_option maxHeartbeats 4000000 in
set_option maxRecDepth 100000 in
theorem partial_any (w : World) (g n cap : Nat) (x : Nat → Nat) (h : Up w g n x) (h12 : (12 : Int) < n) (hn : (n : Int) ≤ 1099511627776) :
    Calls Tryz.prog 137 #[.slice (some ⟨g, 0, none⟩) n cap, .int .i64 0, .int .i64 n] w (Gives (.bool true) w) := by
  have H := Lib.hid h
  clear h
  go_enter Tryz.func137, Tryz.ntmps137
  go_wp2_with fail
  go_loopw [7, 8] (fun i j wr => i = .int .i64 1 ∧ j = .int .i64 0 ∧ wr = w) (fun _ _ _ => 0)
  case atStart => exact ⟨rfl, rfl, rfl⟩
  case round =>
    obtain ⟨rfl, rfl, hw⟩ := hrel
    subst hw
    go_wp2_with fail
    go_loopw [7] (fun i wr2 => ∃ j : Nat, i = .int .i64 ((j : Int) + 1) ∧ j + 1 ≤ n ∧ Hid (Below wr.heap.size wr wr2)) (fun i _ => n + 1 - (intOf i).toNat)
    case atStart => exact ⟨0, rfl, by omega, Lib.hid (Below.refl _ _)⟩
    case round =>
      obtain ⟨j, rfl, hk2, HB⟩ := hrel
      by_cases hlt : j + 1 < n
      · have hlt2 : (j : Int) + 1 < n := by omega
        have hk1 : (0 : Int) ≤ (j : Int) + 1 := by omega
        have hkt : ((j : Int) + 1).toNat = j + 1 := by omega
        have HU := Lib.hid (H.out.below HB.out)
        have hx : decide (x (j + 1) < x j) = false := by
          have := H.out.up j (by omega)
          simp; omega
        have HL := Lib.hid (fun W => less_any (x (j + 1)) (x j) W)
        rw [hx] at HL
        have hwr : IntKind.i64.wrap (j : Int) = j := by rw [IntKind.wrap_i64] <;> omega
        have HWR := Lib.hid hwr
        have hj0 : (0 : Int) ≤ j := by omega
        have hjn : (j : Int) < n := by omega
        have HJ : Hid (j < n) := Lib.hid (by omega)
        clear hx hwr
        have c1 : World.cell? _ ⟨g, j + 1, none⟩ = _ := HU.out.cell (j + 1) hlt
        have c0 : World.cell? _ ⟨g, j, none⟩ = _ := HU.out.cell j HJ.out
        go_wp2_with fail
        have hwr := HWR.out
        go_region_held3 (fun w' => w'.cell? ⟨g, j + 1, none⟩ = some (.int .u64 (x (j + 1) : Nat)) ∧ w'.cell? ⟨g, j, none⟩ = some (.int .u64 (x j : Nat)))
          (first
            | go_keep
            | (go_split_ands; refine ⟨?_, ?_⟩ <;> assumption))
          (first
            | (go_at_call 138; refine (HL.out _).mono ?_; rintro e w2 ⟨rfl, rfl⟩))
        have HB2 := Lib.hid HB.out.drew
        clear c1 c0 hwr
        go_wp2_with fail
        go_roundw
        case rel => exact ⟨j + 1, by go_num, by omega, HB2⟩
        case measure => simp [intOf]; omega
      · have hlt2 : ¬ (j : Int) + 1 < n := by omega
        have heq : (j : Int) + 1 = n := by omega
        rw [heq] at hlt2 ⊢
        have hnn : ¬ (n : Int) < n := by omega
        clear hlt heq hlt2 hk2
        go_wp2_with fail
        refine wp_region_noPanic ?_
        refine wp_region_held_drew (S := fun _ => True) (by kernel_rfl) trivial (fun _ => ?_)
        refine wpAnyH_take (i := 0) (v := ?v0) rfl (by kernel_rfl) (by kernel_rfl) (by kernel_rfl) (fun _ _ _ h => h) (Or.inl ⟨by kernel_rfl, ?y0⟩) trivial ?_; case y0 => (intro w' _; go_simp; try with_reducible rfl)
        simp only [Act.put, List.setIfInBounds_toArray, List.set_cons_zero, List.set_cons_succ, List.getElem_toArray, List.getElem_cons_zero, List.getElem_cons_succ]
        refine wpAnyH_take (i := 1) (v := ?v1) rfl (by kernel_rfl) (by kernel_rfl) (by kernel_rfl) (fun _ _ _ h => h) (Or.inl ⟨by kernel_rfl, ?y1⟩) trivial ?_; case y1 => (intro w' _; go_simp; try with_reducible rfl)
        simp only [Act.put, List.setIfInBounds_toArray, List.set_cons_zero, List.set_cons_succ, List.getElem_toArray, List.getElem_cons_zero, List.getElem_cons_succ]
        refine wpAnyH_take (i := 2) (v := ?v2) rfl (by kernel_rfl) (by kernel_rfl) (by kernel_rfl) (fun _ _ _ h => h) (Or.inl ⟨by kernel_rfl, ?y2⟩) trivial ?_; case y2 => (intro w' _; go_simp; try with_reducible rfl)
        simp only [Act.put, List.setIfInBounds_toArray, List.set_cons_zero, List.set_cons_succ, List.getElem_toArray, List.getElem_cons_zero, List.getElem_cons_succ]
        refine wpAnyH_take (i := 3) (v := ?v3) rfl (by kernel_rfl) (by kernel_rfl) (by kernel_rfl) (fun _ _ _ h => h) (Or.inl ⟨by kernel_rfl, ?y3⟩) trivial ?_; case y3 => (intro w' _; go_simp; try with_reducible rfl)
        simp only [Act.put, List.setIfInBounds_toArray, List.set_cons_zero, List.set_cons_succ, List.getElem_toArray, List.getElem_cons_zero, List.getElem_cons_succ]
        (refine wpAnyH_take (i := 4) (v := undef) rfl (by kernel_rfl) (by kernel_rfl) (by kernel_rfl) (fun _ _ _ h => h) (Or.inr ⟨by kernel_rfl, rfl⟩) trivial ?_; simp only [Act.put, List.setIfInBounds_toArray, List.set_cons_zero, List.set_cons_succ, List.getElem_toArray, List.getElem_cons_zero, List.getElem_cons_succ])
        (refine wpAnyH_take (i := 5) (v := undef) rfl (by kernel_rfl) (by kernel_rfl) (by kernel_rfl) (fun _ _ _ h => h) (Or.inr ⟨by kernel_rfl, rfl⟩) trivial ?_; simp only [Act.put, List.setIfInBounds_toArray, List.set_cons_zero, List.set_cons_succ, List.getElem_toArray, List.getElem_cons_zero, List.getElem_cons_succ])
        (refine wpAnyH_take (i := 6) (v := undef) rfl (by kernel_rfl) (by kernel_rfl) (by kernel_rfl) (fun _ _ _ h => h) (Or.inr ⟨by kernel_rfl, rfl⟩) trivial ?_; simp only [Act.put, List.setIfInBounds_toArray, List.set_cons_zero, List.set_cons_succ, List.getElem_toArray, List.getElem_cons_zero, List.getElem_cons_succ])
        (refine wpAnyH_take (i := 7) (v := undef) rfl (by kernel_rfl) (by kernel_rfl) (by kernel_rfl) (fun _ _ _ h => h) (Or.inr ⟨by kernel_rfl, rfl⟩) trivial ?_; simp only [Act.put, List.setIfInBounds_toArray, List.set_cons_zero, List.set_cons_succ, List.getElem_toArray, List.getElem_cons_zero, List.getElem_cons_succ])
        (refine wpAnyH_take (i := 8) (v := undef) rfl (by kernel_rfl) (by kernel_rfl) (by kernel_rfl) (fun _ _ _ h => h) (Or.inr ⟨by kernel_rfl, rfl⟩) trivial ?_; simp only [Act.put, List.setIfInBounds_toArray, List.set_cons_zero, List.set_cons_succ, List.getElem_toArray, List.getElem_cons_zero, List.getElem_cons_succ])
        (refine wpAnyH_take (i := 9) (v := undef) rfl (by kernel_rfl) (by kernel_rfl) (by kernel_rfl) (fun _ _ _ h => h) (Or.inr ⟨by kernel_rfl, rfl⟩) trivial ?_; simp only [Act.put, List.setIfInBounds_toArray, List.set_cons_zero, List.set_cons_succ, List.getElem_toArray, List.getElem_cons_zero, List.getElem_cons_succ])
        (refine wpAnyH_take (i := 10) (v := undef) rfl (by kernel_rfl) (by kernel_rfl) (by kernel_rfl) (fun _ _ _ h => h) (Or.inr ⟨by kernel_rfl, rfl⟩) trivial ?_; simp only [Act.put, List.setIfInBounds_toArray, List.set_cons_zero, List.set_cons_succ, List.getElem_toArray, List.getElem_cons_zero, List.getElem_cons_succ])
        (refine wpAnyH_take (i := 11) (v := undef) rfl (by kernel_rfl) (by kernel_rfl) (by kernel_rfl) (fun _ _ _ h => h) (Or.inr ⟨by kernel_rfl, rfl⟩) trivial ?_; simp only [Act.put, List.setIfInBounds_toArray, List.set_cons_zero, List.set_cons_succ, List.getElem_toArray, List.getElem_cons_zero, List.getElem_cons_succ])
        (refine wpAnyH_take (i := 12) (v := undef) rfl (by kernel_rfl) (by kernel_rfl) (by kernel_rfl) (fun _ _ _ h => h) (Or.inr ⟨by kernel_rfl, rfl⟩) trivial ?_; simp only [Act.put, List.setIfInBounds_toArray, List.set_cons_zero, List.set_cons_succ, List.getElem_toArray, List.getElem_cons_zero, List.getElem_cons_succ])
        (refine wpAnyH_take (i := 13) (v := undef) rfl (by kernel_rfl) (by kernel_rfl) (by kernel_rfl) (fun _ _ _ h => h) (Or.inr ⟨by kernel_rfl, rfl⟩) trivial ?_; simp only [Act.put, List.setIfInBounds_toArray, List.set_cons_zero, List.set_cons_succ, List.getElem_toArray, List.getElem_cons_zero, List.getElem_cons_succ])
        (refine wpAnyH_take (i := 14) (v := undef) rfl (by kernel_rfl) (by kernel_rfl) (by kernel_rfl) (fun _ _ _ h => h) (Or.inr ⟨by kernel_rfl, rfl⟩) trivial ?_; simp only [Act.put, List.setIfInBounds_toArray, List.set_cons_zero, List.set_cons_succ, List.getElem_toArray, List.getElem_cons_zero, List.getElem_cons_succ])
        refine wpAnyH_take (i := 15) (v := ?v15) rfl (by kernel_rfl) (by kernel_rfl) (by kernel_rfl) (fun _ _ _ h => h) (Or.inl ⟨by kernel_rfl, ?y15⟩) trivial ?_; case y15 => (intro w' _; go_simp; try with_reducible rfl)
        simp only [Act.put, List.setIfInBounds_toArray, List.set_cons_zero, List.set_cons_succ, List.getElem_toArray, List.getElem_cons_zero, List.getElem_cons_succ]
        refine wpAnyH_done (by kernel_rfl) ?_ _
        refine NoPanic.normal ?_
        have HB2 := Lib.hid HB.out.drew
        go_wp2_with fail
        go_ret
        exact ⟨rfl, HB2.out⟩

set_option maxHeartbeats 4000000 in
set_option maxRecDepth 100000 in
theorem pdq_more (w : World) (g n cap : Nat) (x : Nat → Nat) (h : Up w g n x) (h12 : (12 : Int) < n) (hn : (n : Int) ≤ 1099511627776) (lim : Int) (hl : lim ≠ 0) :
    Calls Tryz.prog 98 #[.slice (some ⟨g, 0, none⟩) n cap, .int .i64 0, .int .i64 n, .int .i64 lim] w (Gives (.tuple #[]) w) := by
  have H := Lib.hid h; clear h
  have HP := Lib.hid (pivot_any w g n cap x H.out h12 hn)
  have HA := Lib.hid (fun W (hb : Below w.heap.size w W) => partial_any W g n cap x (H.out.below hb) h12 hn)
  have hwr : IntKind.i64.wrap (n : Int) = n := by rw [IntKind.wrap_i64] <;> omega
  have hl0 : ¬ lim = 0 := hl
  clear hl
  go_enter Tryz.func98, Tryz.ntmps98
  go_wp2_with fail
  go_loopw [1, 2, 3, 8, 9] (fun a b l p q wr => a = .int .i64 0 ∧ b = .int .i64 n ∧ l = .int .i64 lim ∧ p = .bool true ∧ q = .bool true ∧ wr = w) (fun _ _ _ _ _ _ => 0)
  case atStart => exact ⟨rfl, rfl, rfl, rfl, rfl, rfl⟩
  case round =>
    obtain ⟨rfl, rfl, rfl, rfl, rfl, hw⟩ := hrel
    subst hw
    have h12b : ¬ (n : Int) ≤ 12 := by omega
    go_wp2_with fail
    refine HP.out.mono ?_
    rintro e w1 ⟨⟨j, rfl⟩, hb1⟩
    have HB1 := Lib.hid hb1; clear hb1
    go_wp2_with fail
    refine (HA.out _ HB1.out).mono ?_
    rintro e w2 ⟨rfl, hb2⟩
    have HB2 := Lib.hid (Below.next HB1.out hb2); clear hb2
    go_wp2_with fail
    go_end0
    exact ⟨rfl, HB2.out⟩
theorem bitLen_pos {n : Nat} (h : 12 < n) (hn : n ≤ 1099511627776) : ((Lib.bitLen n : Nat) : Int) ≠ 0 := by
  intro h0
  have h1 : Lib.bitLen n = 0 := by omega
  have := Lib.bitLen_half n (by omega) (by omega)
  omega
/-- Rising numbers. -/
theorem sort_up (w : World) (g n cap : Nat) (x : Nat → Nat) (h : Up w g n x) (hn : n ≤ 1099511627776) : Calls Tryz.prog 47 #[.slice (some ⟨g, 0, none⟩) n cap] w (Gives (.tuple #[]) w) := by
  by_cases h12 : n ≤ 12
  · exact sort_few w g n cap x h h12
  · exact sort_of w (some ⟨g, 0, none⟩) n cap (by omega) fun W hW => pdq_more W g n cap x (h.below hW) (by omega) (by omega) _ (bitLen_pos (by omega) hn)

end Go.Proofs.YtfeconankopjmaaGreatDoor
