/- Walks of edit's small functions: isNumber, isKey, mayCome, Check. -/
import Derived.Test.YtbdoekogoiijeaaEdHeap
import Derived.Test.YtbdoekogoiijeaaBoOrd
namespace Go.Proofs.Ytbdoekogoiijeaa
open Go.RowKit
set_option linter.unusedVariables false

set_option maxHeartbeats 400000 in
theorem isNumber_any (n : Nat) (w : World) :
    Calls Try.prog 85 #[.int .u64 n] w fun e w' => e = .returned (.bool (Ed.numOk n)) ∧ w' = w := by
  by_cases h1 : 1 ≤ n
  · by_cases h2 : n ≤ 1099511627776
    · have HE : Hid (Ed.numOk n = true) := Lib.hid (by simp [Ed.numOk, h1, h2])
      have h1' : (1 : Int) ≤ n := by omega
      have h2' : (n : Int) ≤ 1099511627776 := by omega
      clear h1 h2
      go_enter Try.func85, Try.ntmps85
      go_wp2_with fail
      go_ret
      rw [HE.out]; exact ⟨rfl, rfl⟩
    · have HE : Hid (Ed.numOk n = false) := Lib.hid (by simp [Ed.numOk]; omega)
      have h1' : (1 : Int) ≤ n := by omega
      have h2' : ¬ (n : Int) ≤ 1099511627776 := by omega
      clear h1 h2
      go_enter Try.func85, Try.ntmps85
      go_wp2_with fail
      go_ret
      rw [HE.out]; exact ⟨rfl, rfl⟩
  · have HE : Hid (Ed.numOk n = false) := Lib.hid (by simp [Ed.numOk]; omega)
    have h1' : ¬ (1 : Int) ≤ n := by omega
    clear h1
    go_enter Try.func85, Try.ntmps85
    go_wp2_with fail
    go_ret
    rw [HE.out]; exact ⟨rfl, rfl⟩

theorem isEmpty_yes {s : ByteArray} (h : s.size = 0) : s.toList.isEmpty = true := by rw [empty_of_size h, ByteArray.toList_eq]; rfl

set_option maxHeartbeats 400000 in
theorem isKey_any (s : ByteArray) (w : World) :
    Calls Try.prog 96 #[.string s] w fun e w' => e = .returned (.bool (Ed.keyOk s)) ∧ w' = w := by
  by_cases h1 : s.size = 0
  · have HE : Hid (Ed.keyOk s = false) := Lib.hid (by simp [Ed.keyOk, h1])
    have he := isEmpty_yes h1
    clear h1
    go_enter Try.func96, Try.ntmps96
    go_wp2_with fail
    go_ret
    rw [HE.out]; exact ⟨rfl, rfl⟩
  · have he := isEmpty_of_size (s := s) (by omega)
    by_cases h2 : s.size ≤ 64
    · have HE : Hid (Ed.keyOk s = true) := Lib.hid (by simp [Ed.keyOk, h2]; omega)
      clear h1
      go_enter Try.func96, Try.ntmps96
      go_wp2_with fail
      go_ret
      rw [HE.out]; exact ⟨by simp; omega, rfl⟩
    · have HE : Hid (Ed.keyOk s = false) := Lib.hid (by simp [Ed.keyOk]; omega)
      clear h1
      go_enter Try.func96, Try.ntmps96
      go_wp2_with fail
      go_ret
      rw [HE.out]; exact ⟨by simp; omega, rfl⟩

/-- The box of a table that is an argument. -/
def tbBox (t : Tbl) : Obj := .cells #[.int .u64 (t.n : Nat), .int .i64 t.level, .int .i64 t.count, .int .i64 t.size, .string t.first, .string t.last, .int .u64 (t.least : Nat), .int .u64 (t.most : Nat)] 38

set_option maxHeartbeats 1000000 in
theorem mayCome_no0 (t : Tbl) (w : World)  (hx : ¬ (Ed.numOk t.n = true)) :
    Calls Try.prog 84 #[tbV t] w (Gives (.bool false) w) := by
  have HB : Hid (Below w.heap.size w (w.alloc (tbBox t))) := Lib.hid ((Below.refl _ _).alloc (Nat.le_refl _) _)
  have HN : Hid (∀ W, Calls Try.prog 85 #[.int .u64 (t.n : Nat)] W fun e w' => e = .returned (.bool false) ∧ w' = W) := Lib.hid (fun W => by have := isNumber_any t.n W; rw [Bool.eq_false_iff.2 hx] at this; exact this)
  unfold tbBox at HB
  unfold tbV
  clear hx
  go_enter Try.func84, Try.ntmps84
  go_wp2_with fail
  refine (HN.out _).mono ?_
  rintro e w1 ⟨rfl, rfl⟩
  go_wp2_with fail
  go_ret
  exact ⟨rfl, HB.out⟩
set_option maxHeartbeats 1000000 in
theorem mayCome_no1 (t : Tbl) (w : World) (h0 : Ed.numOk t.n = true) (hx : ¬ (0 ≤ t.level)) :
    Calls Try.prog 84 #[tbV t] w (Gives (.bool false) w) := by
  have HB : Hid (Below w.heap.size w (w.alloc (tbBox t))) := Lib.hid ((Below.refl _ _).alloc (Nat.le_refl _) _)
  have HN : Hid (∀ W, Calls Try.prog 85 #[.int .u64 (t.n : Nat)] W fun e w' => e = .returned (.bool true) ∧ w' = W) := Lib.hid (fun W => by have := isNumber_any t.n W; rw [h0] at this; exact this)
  unfold tbBox at HB
  unfold tbV
  clear h0
  go_enter Try.func84, Try.ntmps84
  go_wp2_with fail
  refine (HN.out _).mono ?_
  rintro e w1 ⟨rfl, rfl⟩
  go_wp2_with fail
  go_ret
  exact ⟨rfl, HB.out⟩
set_option maxHeartbeats 1000000 in
theorem mayCome_no2 (t : Tbl) (w : World) (h0 : Ed.numOk t.n = true) (h1 : 0 ≤ t.level) (hx : ¬ (t.level < 4)) :
    Calls Try.prog 84 #[tbV t] w (Gives (.bool false) w) := by
  have HB : Hid (Below w.heap.size w (w.alloc (tbBox t))) := Lib.hid ((Below.refl _ _).alloc (Nat.le_refl _) _)
  have HN : Hid (∀ W, Calls Try.prog 85 #[.int .u64 (t.n : Nat)] W fun e w' => e = .returned (.bool true) ∧ w' = W) := Lib.hid (fun W => by have := isNumber_any t.n W; rw [h0] at this; exact this)
  unfold tbBox at HB
  unfold tbV
  clear h0
  go_enter Try.func84, Try.ntmps84
  go_wp2_with fail
  refine (HN.out _).mono ?_
  rintro e w1 ⟨rfl, rfl⟩
  go_wp2_with fail
  go_ret
  exact ⟨rfl, HB.out⟩
set_option maxHeartbeats 1000000 in
theorem mayCome_no3 (t : Tbl) (w : World) (h0 : Ed.numOk t.n = true) (h1 : 0 ≤ t.level) (h2 : t.level < 4) (hx : ¬ (1 ≤ t.count)) :
    Calls Try.prog 84 #[tbV t] w (Gives (.bool false) w) := by
  have HB : Hid (Below w.heap.size w (w.alloc (tbBox t))) := Lib.hid ((Below.refl _ _).alloc (Nat.le_refl _) _)
  have HN : Hid (∀ W, Calls Try.prog 85 #[.int .u64 (t.n : Nat)] W fun e w' => e = .returned (.bool true) ∧ w' = W) := Lib.hid (fun W => by have := isNumber_any t.n W; rw [h0] at this; exact this)
  unfold tbBox at HB
  unfold tbV
  clear h0
  go_enter Try.func84, Try.ntmps84
  go_wp2_with fail
  refine (HN.out _).mono ?_
  rintro e w1 ⟨rfl, rfl⟩
  go_wp2_with fail
  go_ret
  exact ⟨rfl, HB.out⟩
set_option maxHeartbeats 1000000 in
theorem mayCome_no4 (t : Tbl) (w : World) (h0 : Ed.numOk t.n = true) (h1 : 0 ≤ t.level) (h2 : t.level < 4) (h3 : 1 ≤ t.count) (hx : ¬ (1 ≤ t.size)) :
    Calls Try.prog 84 #[tbV t] w (Gives (.bool false) w) := by
  have HB : Hid (Below w.heap.size w (w.alloc (tbBox t))) := Lib.hid ((Below.refl _ _).alloc (Nat.le_refl _) _)
  have HN : Hid (∀ W, Calls Try.prog 85 #[.int .u64 (t.n : Nat)] W fun e w' => e = .returned (.bool true) ∧ w' = W) := Lib.hid (fun W => by have := isNumber_any t.n W; rw [h0] at this; exact this)
  unfold tbBox at HB
  unfold tbV
  clear h0
  go_enter Try.func84, Try.ntmps84
  go_wp2_with fail
  refine (HN.out _).mono ?_
  rintro e w1 ⟨rfl, rfl⟩
  go_wp2_with fail
  go_ret
  exact ⟨rfl, HB.out⟩
set_option maxHeartbeats 1000000 in
theorem mayCome_no5 (t : Tbl) (w : World) (h0 : Ed.numOk t.n = true) (h1 : 0 ≤ t.level) (h2 : t.level < 4) (h3 : 1 ≤ t.count) (h4 : 1 ≤ t.size) (hx : ¬ (Ed.keyOk t.first = true)) :
    Calls Try.prog 84 #[tbV t] w (Gives (.bool false) w) := by
  have HB : Hid (Below w.heap.size w (w.alloc (tbBox t))) := Lib.hid ((Below.refl _ _).alloc (Nat.le_refl _) _)
  have HN : Hid (∀ W, Calls Try.prog 85 #[.int .u64 (t.n : Nat)] W fun e w' => e = .returned (.bool true) ∧ w' = W) := Lib.hid (fun W => by have := isNumber_any t.n W; rw [h0] at this; exact this)
  have HF : Hid (∀ W, Calls Try.prog 96 #[.string t.first] W fun e w' => e = .returned (.bool false) ∧ w' = W) := Lib.hid (fun W => by have := isKey_any t.first W; rw [Bool.eq_false_iff.2 hx] at this; exact this)
  unfold tbBox at HB
  unfold tbV
  clear h0 hx
  go_enter Try.func84, Try.ntmps84
  go_wp2_with fail
  refine (HN.out _).mono ?_
  rintro e w1 ⟨rfl, rfl⟩
  go_wp2_with fail
  refine (HF.out _).mono ?_
  rintro e w1 ⟨rfl, rfl⟩
  go_wp2_with fail
  go_ret
  exact ⟨rfl, HB.out⟩
set_option maxHeartbeats 1000000 in
theorem mayCome_no6 (t : Tbl) (w : World) (h0 : Ed.numOk t.n = true) (h1 : 0 ≤ t.level) (h2 : t.level < 4) (h3 : 1 ≤ t.count) (h4 : 1 ≤ t.size) (h5 : Ed.keyOk t.first = true) (hx : ¬ (Ed.keyOk t.last = true)) :
    Calls Try.prog 84 #[tbV t] w (Gives (.bool false) w) := by
  have HB : Hid (Below w.heap.size w (w.alloc (tbBox t))) := Lib.hid ((Below.refl _ _).alloc (Nat.le_refl _) _)
  have HN : Hid (∀ W, Calls Try.prog 85 #[.int .u64 (t.n : Nat)] W fun e w' => e = .returned (.bool true) ∧ w' = W) := Lib.hid (fun W => by have := isNumber_any t.n W; rw [h0] at this; exact this)
  have HF : Hid (∀ W, Calls Try.prog 96 #[.string t.first] W fun e w' => e = .returned (.bool true) ∧ w' = W) := Lib.hid (fun W => by have := isKey_any t.first W; rw [h5] at this; exact this)
  have HL : Hid (∀ W, Calls Try.prog 96 #[.string t.last] W fun e w' => e = .returned (.bool false) ∧ w' = W) := Lib.hid (fun W => by have := isKey_any t.last W; rw [Bool.eq_false_iff.2 hx] at this; exact this)
  unfold tbBox at HB
  unfold tbV
  clear h0 h5 hx
  go_enter Try.func84, Try.ntmps84
  go_wp2_with fail
  refine (HN.out _).mono ?_
  rintro e w1 ⟨rfl, rfl⟩
  go_wp2_with fail
  refine (HF.out _).mono ?_
  rintro e w1 ⟨rfl, rfl⟩
  go_wp2_with fail
  refine (HL.out _).mono ?_
  rintro e w1 ⟨rfl, rfl⟩
  go_wp2_with fail
  go_ret
  exact ⟨rfl, HB.out⟩
set_option maxHeartbeats 1000000 in
theorem mayCome_no7 (t : Tbl) (w : World) (h0 : Ed.numOk t.n = true) (h1 : 0 ≤ t.level) (h2 : t.level < 4) (h3 : 1 ≤ t.count) (h4 : 1 ≤ t.size) (h5 : Ed.keyOk t.first = true) (h6 : Ed.keyOk t.last = true) (hx : ¬ (Op.bytesLess t.last.data.toList t.first.data.toList = false)) :
    Calls Try.prog 84 #[tbV t] w (Gives (.bool false) w) := by
  have HB : Hid (Below w.heap.size w (w.alloc (tbBox t))) := Lib.hid ((Below.refl _ _).alloc (Nat.le_refl _) _)
  have HN : Hid (∀ W, Calls Try.prog 85 #[.int .u64 (t.n : Nat)] W fun e w' => e = .returned (.bool true) ∧ w' = W) := Lib.hid (fun W => by have := isNumber_any t.n W; rw [h0] at this; exact this)
  have HF : Hid (∀ W, Calls Try.prog 96 #[.string t.first] W fun e w' => e = .returned (.bool true) ∧ w' = W) := Lib.hid (fun W => by have := isKey_any t.first W; rw [h5] at this; exact this)
  have HL : Hid (∀ W, Calls Try.prog 96 #[.string t.last] W fun e w' => e = .returned (.bool true) ∧ w' = W) := Lib.hid (fun W => by have := isKey_any t.last W; rw [h6] at this; exact this)
  have hxb := Bo.bl_leq (k := t.first) (l := t.last) (by simpa using hx)
  obtain ⟨hx1, hx2⟩ := hxb
  unfold tbBox at HB
  unfold tbV
  clear h0 h5 h6 hx
  go_enter Try.func84, Try.ntmps84
  go_wp2_with fail
  refine (HN.out _).mono ?_
  rintro e w1 ⟨rfl, rfl⟩
  go_wp2_with fail
  refine (HF.out _).mono ?_
  rintro e w1 ⟨rfl, rfl⟩
  go_wp2_with fail
  refine (HL.out _).mono ?_
  rintro e w1 ⟨rfl, rfl⟩
  go_wp2_with fail
  go_ret
  exact ⟨rfl, HB.out⟩
set_option maxHeartbeats 1000000 in
theorem mayCome_no8 (t : Tbl) (w : World) (h0 : Ed.numOk t.n = true) (h1 : 0 ≤ t.level) (h2 : t.level < 4) (h3 : 1 ≤ t.count) (h4 : 1 ≤ t.size) (h5 : Ed.keyOk t.first = true) (h6 : Ed.keyOk t.last = true) (h7 : Op.bytesLess t.last.data.toList t.first.data.toList = false) (hx : ¬ (1 ≤ t.least)) :
    Calls Try.prog 84 #[tbV t] w (Gives (.bool false) w) := by
  have HB : Hid (Below w.heap.size w (w.alloc (tbBox t))) := Lib.hid ((Below.refl _ _).alloc (Nat.le_refl _) _)
  have HN : Hid (∀ W, Calls Try.prog 85 #[.int .u64 (t.n : Nat)] W fun e w' => e = .returned (.bool true) ∧ w' = W) := Lib.hid (fun W => by have := isNumber_any t.n W; rw [h0] at this; exact this)
  have HF : Hid (∀ W, Calls Try.prog 96 #[.string t.first] W fun e w' => e = .returned (.bool true) ∧ w' = W) := Lib.hid (fun W => by have := isKey_any t.first W; rw [h5] at this; exact this)
  have HL : Hid (∀ W, Calls Try.prog 96 #[.string t.last] W fun e w' => e = .returned (.bool true) ∧ w' = W) := Lib.hid (fun W => by have := isKey_any t.last W; rw [h6] at this; exact this)
  have h7b := Bo.bl_geq h7
  have hx8 : ¬ (1 : Int) ≤ (t.least : Int) := by omega
  unfold tbBox at HB
  unfold tbV
  clear h0 h5 h6 h7 hx
  rcases h7b with h7b | ⟨h7b, h7c⟩
  all_goals
    go_enter Try.func84, Try.ntmps84
    go_wp2_with fail
    refine (HN.out _).mono ?_
    rintro e w1 ⟨rfl, rfl⟩
    go_wp2_with fail
    refine (HF.out _).mono ?_
    rintro e w1 ⟨rfl, rfl⟩
    go_wp2_with fail
    refine (HL.out _).mono ?_
    rintro e w1 ⟨rfl, rfl⟩
    go_wp2_with fail
    go_ret
    exact ⟨rfl, HB.out⟩
set_option maxHeartbeats 1000000 in
theorem mayCome_no9 (t : Tbl) (w : World) (h0 : Ed.numOk t.n = true) (h1 : 0 ≤ t.level) (h2 : t.level < 4) (h3 : 1 ≤ t.count) (h4 : 1 ≤ t.size) (h5 : Ed.keyOk t.first = true) (h6 : Ed.keyOk t.last = true) (h7 : Op.bytesLess t.last.data.toList t.first.data.toList = false) (h8 : 1 ≤ t.least) (hx : ¬ (t.least ≤ t.most)) :
    Calls Try.prog 84 #[tbV t] w (Gives (.bool false) w) := by
  have HB : Hid (Below w.heap.size w (w.alloc (tbBox t))) := Lib.hid ((Below.refl _ _).alloc (Nat.le_refl _) _)
  have HN : Hid (∀ W, Calls Try.prog 85 #[.int .u64 (t.n : Nat)] W fun e w' => e = .returned (.bool true) ∧ w' = W) := Lib.hid (fun W => by have := isNumber_any t.n W; rw [h0] at this; exact this)
  have HF : Hid (∀ W, Calls Try.prog 96 #[.string t.first] W fun e w' => e = .returned (.bool true) ∧ w' = W) := Lib.hid (fun W => by have := isKey_any t.first W; rw [h5] at this; exact this)
  have HL : Hid (∀ W, Calls Try.prog 96 #[.string t.last] W fun e w' => e = .returned (.bool true) ∧ w' = W) := Lib.hid (fun W => by have := isKey_any t.last W; rw [h6] at this; exact this)
  have h7b := Bo.bl_geq h7
  have hx9 : ¬ (t.least : Int) ≤ (t.most : Int) := by omega
  have h8i : (1 : Int) ≤ (t.least : Int) := by omega
  unfold tbBox at HB
  unfold tbV
  clear h0 h5 h6 h7 hx h8
  rcases h7b with h7b | ⟨h7b, h7c⟩
  all_goals
    go_enter Try.func84, Try.ntmps84
    go_wp2_with fail
    refine (HN.out _).mono ?_
    rintro e w1 ⟨rfl, rfl⟩
    go_wp2_with fail
    refine (HF.out _).mono ?_
    rintro e w1 ⟨rfl, rfl⟩
    go_wp2_with fail
    refine (HL.out _).mono ?_
    rintro e w1 ⟨rfl, rfl⟩
    go_wp2_with fail
    go_ret
    exact ⟨by first | (simp; done) | (simp; omega), HB.out⟩
set_option maxHeartbeats 1000000 in
theorem mayCome_yes (t : Tbl) (w : World) (h0 : Ed.numOk t.n = true) (h1 : 0 ≤ t.level) (h2 : t.level < 4) (h3 : 1 ≤ t.count) (h4 : 1 ≤ t.size) (h5 : Ed.keyOk t.first = true) (h6 : Ed.keyOk t.last = true) (h7 : Op.bytesLess t.last.data.toList t.first.data.toList = false) (h8 : 1 ≤ t.least) (h9 : t.least ≤ t.most) :
    Calls Try.prog 84 #[tbV t] w (Gives (.bool true) w) := by
  have HB : Hid (Below w.heap.size w (w.alloc (tbBox t))) := Lib.hid ((Below.refl _ _).alloc (Nat.le_refl _) _)
  have HN : Hid (∀ W, Calls Try.prog 85 #[.int .u64 (t.n : Nat)] W fun e w' => e = .returned (.bool true) ∧ w' = W) := Lib.hid (fun W => by have := isNumber_any t.n W; rw [h0] at this; exact this)
  have HF : Hid (∀ W, Calls Try.prog 96 #[.string t.first] W fun e w' => e = .returned (.bool true) ∧ w' = W) := Lib.hid (fun W => by have := isKey_any t.first W; rw [h5] at this; exact this)
  have HL : Hid (∀ W, Calls Try.prog 96 #[.string t.last] W fun e w' => e = .returned (.bool true) ∧ w' = W) := Lib.hid (fun W => by have := isKey_any t.last W; rw [h6] at this; exact this)
  have h7b := Bo.bl_geq h7
  have h8i : (1 : Int) ≤ (t.least : Int) := by omega
  have h9i : (t.least : Int) ≤ (t.most : Int) := by omega
  unfold tbBox at HB
  unfold tbV
  clear h0 h5 h6 h7 h8 h9
  rcases h7b with h7b | ⟨h7b, h7c⟩
  all_goals
    go_enter Try.func84, Try.ntmps84
    go_wp2_with fail
    refine (HN.out _).mono ?_
    rintro e w1 ⟨rfl, rfl⟩
    go_wp2_with fail
    refine (HF.out _).mono ?_
    rintro e w1 ⟨rfl, rfl⟩
    go_wp2_with fail
    refine (HL.out _).mono ?_
    rintro e w1 ⟨rfl, rfl⟩
    go_wp2_with fail
    go_ret
    exact ⟨by first | (simp; done) | (simp; omega), HB.out⟩

/-- mayCome, of every table. -/
theorem mayCome_any (t : Tbl) (w : World) : Calls Try.prog 84 #[tbV t] w (Gives (.bool (Ed.tbOk t)) w) := by
  have e : ∀ b : Bool, (Ed.tbOk t = b) → Calls Try.prog 84 #[tbV t] w (Gives (.bool b) w) → Calls Try.prog 84 #[tbV t] w (Gives (.bool (Ed.tbOk t)) w) := fun b h k => by rw [h]; exact k
  by_cases h0 : Ed.numOk t.n = true
  case neg => exact e false (by unfold Ed.tbOk; first | (simp [h0]; done) | (simp [h0]; intros; omega)) (mayCome_no0 t w  h0)
  by_cases h1 : 0 ≤ t.level
  case neg => exact e false (by unfold Ed.tbOk; first | (simp [h0]; done) | (simp [h0]; intros; omega)) (mayCome_no1 t w h0 h1)
  by_cases h2 : t.level < 4
  case neg => exact e false (by unfold Ed.tbOk; first | (simp [h0, h1]; done) | (simp [h0, h1]; intros; omega)) (mayCome_no2 t w h0 h1 h2)
  by_cases h3 : 1 ≤ t.count
  case neg => exact e false (by unfold Ed.tbOk; first | (simp [h0, h1, h2]; done) | (simp [h0, h1, h2]; intros; omega)) (mayCome_no3 t w h0 h1 h2 h3)
  by_cases h4 : 1 ≤ t.size
  case neg => exact e false (by unfold Ed.tbOk; first | (simp [h0, h1, h2, h3]; done) | (simp [h0, h1, h2, h3]; intros; omega)) (mayCome_no4 t w h0 h1 h2 h3 h4)
  by_cases h5 : Ed.keyOk t.first = true
  case neg => exact e false (by unfold Ed.tbOk; first | (simp [h0, h1, h2, h3, h4, h5]; done) | (simp [h0, h1, h2, h3, h4, h5]; intros; omega)) (mayCome_no5 t w h0 h1 h2 h3 h4 h5)
  by_cases h6 : Ed.keyOk t.last = true
  case neg => exact e false (by unfold Ed.tbOk; first | (simp [h0, h1, h2, h3, h4, h5, h6]; done) | (simp [h0, h1, h2, h3, h4, h5, h6]; intros; omega)) (mayCome_no6 t w h0 h1 h2 h3 h4 h5 h6)
  by_cases h7 : Op.bytesLess t.last.data.toList t.first.data.toList = false
  case neg => exact e false (by unfold Ed.tbOk; first | (simp [h0, h1, h2, h3, h4, h5, h6, h7]; done) | (simp [h0, h1, h2, h3, h4, h5, h6, h7]; intros; omega)) (mayCome_no7 t w h0 h1 h2 h3 h4 h5 h6 h7)
  by_cases h8 : 1 ≤ t.least
  case neg => exact e false (by unfold Ed.tbOk; first | (simp [h0, h1, h2, h3, h4, h5, h6, h7, show t.least = 0 by omega]; done) | (simp [h0, h1, h2, h3, h4, h5, h6, h7, show t.least = 0 by omega]; intros; omega)) (mayCome_no8 t w h0 h1 h2 h3 h4 h5 h6 h7 h8)
  by_cases h9 : t.least ≤ t.most
  case neg => exact e false (by unfold Ed.tbOk; first | (simp [h0, h1, h2, h3, h4, h5, h6, h7, h8, Nat.not_le.1 h9]; done) | (simp [h0, h1, h2, h3, h4, h5, h6, h7, h8, Nat.not_le.1 h9]; intros; omega)) (mayCome_no9 t w h0 h1 h2 h3 h4 h5 h6 h7 h8 h9)
  exact e true (by unfold Ed.tbOk; simp [h0, h1, h2, h3, h4, h5, h6, h7, h8, h9]) (mayCome_yes t w h0 h1 h2 h3 h4 h5 h6 h7 h8 h9)

theorem all_yes {α : Type} {l : List α} {f : α → Bool} {d : α} (h : ∀ k, k < l.length → f (l.getD k d) = true) : l.all f = true := by
  rw [List.all_eq_true]
  intro x hx
  obtain ⟨i, hi, rfl⟩ := List.getElem_of_mem hx
  have := h i hi
  have e : l.getD i d = l[i] := by simp [hi]
  rw [e] at this
  exact this
theorem all_no {α : Type} {l : List α} {f : α → Bool} {d : α} {k : Nat} (h : k < l.length) (hk : f (l.getD k d) = false) : l.all f = false := by
  rw [List.all_eq_false]
  have e : l.getD k d = l[k] := by simp [h]
  exact ⟨l[k], List.getElem_mem h, by rw [← e, hk]; simp⟩

set_option maxHeartbeats 2000000 in
theorem check_any (ao : Option Addr) (an ac : Nat) (bo : Option Addr) (bn bc : Nat) (e : Edt) (w : World) (hA : SeesTb w (.slice ao an ac) e.add) (hD : SeesU w (.slice bo bn bc) e.drop) (hla : an ≤ 1000000000) (hlb : bn ≤ 1000000000) :
    Calls Try.prog 64 #[edV ao an ac bo bn bc e.log e.seq e.next] w (Gives (.int .i64 (Ed.chk e.add e.drop)) w) := by
  obtain ⟨hal, ba, oa, hac⟩ := hA.get
  obtain ⟨hdl, bd, od, hdc⟩ := hD.get
  have HE : Hid (Ed.chk e.add e.drop = if (e.add.all Ed.tbOk && e.drop.all Ed.numOk) = true then 0 else 1) := Lib.hid rfl
  have HAC := Lib.hid hac; have HDC := Lib.hid hdc; have HAL := Lib.hid hal; have HDL := Lib.hid hdl
  have HB : Hid (Below w.heap.size w (w.alloc (.cells #[Value.slice ao an ac, .slice bo bn bc, .int .u64 (e.log : Nat), .int .u64 (e.seq : Nat), .int .u64 (e.next : Nat)] 30))) := Lib.hid ((Below.refl _ _).alloc (Nat.le_refl _) _)
  have hd : (w.alloc (.cells #[Value.slice ao an ac, .slice bo bn bc, .int .u64 (e.log : Nat), .int .u64 (e.seq : Nat), .int .u64 (e.next : Nat)] 30)).cell? ⟨w.heap.size, 1, none⟩ = some (.slice bo bn bc) := by rw [World.cell?_alloc_new]; rfl
  have hsz0 : w.heap.size < (w.alloc (.cells #[Value.slice ao an ac, .slice bo bn bc, .int .u64 (e.log : Nat), .int .u64 (e.seq : Nat), .int .u64 (e.next : Nat)] 30)).heap.size := by simp
  clear hac hdc hal hdl hA hD
  unfold edV
  go_enter Try.func64, Try.ntmps64
  go_wp2_with fail
  generalize w.alloc (.cells #[Value.slice ao an ac, .slice bo bn bc, .int .u64 (e.log : Nat), .int .u64 (e.seq : Nat), .int .u64 (e.next : Nat)] 30) = W at *
  go_loopw [10] (fun i wr => ∃ k : Nat, k ≤ an ∧ i = .int .i64 k ∧ (∀ j, j < k → Ed.tbOk (e.add.getD j tbd) = true) ∧ wr.cell? ⟨w.heap.size, 1, none⟩ = some (.slice bo bn bc) ∧ Below w.heap.size w wr ∧ w.heap.size < wr.heap.size) (fun i _ => an - (intOf i).toNat)
  case atStart => exact ⟨0, Nat.zero_le _, rfl, fun j hj => by omega, hd, HB.out, hsz0⟩
  case round =>
    obtain ⟨k, hk, rfl, hyes, hq, hbel, hsl⟩ := hrel
    clear hd
    have HY := Lib.hid hyes; clear hyes
    have hsz := hbel.size
    by_cases hlt : k < an
    · obtain ⟨rfl, hbl, hob⟩ := HAC.out k hlt
      obtain ⟨c0, c1, c2, c3, c4, c5, c6, c7⟩ := hob.below hbel hbl
      have hbr : ba < wr.heap.size := by omega
      have HKL : Hid (k < e.add.length) := Lib.hid (by rw [HAL.out]; exact hlt)
      clear hob
      generalize hx : e.add.getD k tbd = x at *
      have HX := Lib.hid hx; clear hx
      have HM : Hid (∀ W, Calls Try.prog 84 #[.agg #[.int .u64 (x.n : Nat), .int .i64 x.level, .int .i64 x.count, .int .i64 x.size, .string x.first, .string x.last, .int .u64 (x.least : Nat), .int .u64 (x.most : Nat)]] W (Gives (.bool (Ed.tbOk x)) W)) := Lib.hid (fun W => mayCome_any x W)
      by_cases hok : Ed.tbOk x = true
      · rw [hok] at HM
        go_wp2_with fail
        refine (HM.out _).mono ?_
        rintro r w1 ⟨rfl, hb1⟩
        have hq1 : w1.cell? ⟨w.heap.size, 1, none⟩ = some (.slice bo bn bc) := by rw [(bcell hb1).1 _ _ (by simp; omega), World.cell?_alloc_past _ _ _ hsl]; exact hq
        have HB1 : Hid (Below w.heap.size w w1) := Lib.hid (Below.next (Below.next_alloc hbel _) hb1)
        have hs1 : w.heap.size < w1.heap.size := by have := hb1.size; simp at this; omega
        clear hb1
        go_wp2_with fail
        go_roundw
        case rel =>
          refine ⟨k + 1, by omega, by go_num, fun j hj => ?_, hq1, HB1.out, hs1⟩
          by_cases e : j = k
          · rw [e, HX.out]; exact hok
          · exact HY.out j (by omega)
        case measure => simp [intOf]; omega
      · have hno : Ed.tbOk x = false := by simpa using hok
        rw [hno] at HM
        have HZ : Hid (Ed.chk e.add e.drop = 1) := Lib.hid (by rw [HE.out, all_no HKL.out (by rw [HX.out]; exact hno)]; simp)
        clear hok hno
        go_wp2_with fail
        refine (HM.out _).mono ?_
        rintro r w1 ⟨rfl, hb1⟩
        have HB1 : Hid (Below w.heap.size w w1) := Lib.hid (Below.next (Below.next_alloc hbel _) hb1)
        clear hb1
        go_wp2_with fail
        go_ret
        rw [HZ.out]
        exact ⟨rfl, HB1.out⟩
    · have HA : Hid (e.add.all Ed.tbOk = true) := Lib.hid (all_yes (fun j hj => HY.out j (by rw [HAL.out] at hj; omega)))
      clear HE HY HAC
      have HE : Hid (Ed.chk e.add e.drop = if (e.drop.all Ed.numOk) = true then 0 else 1) := Lib.hid (by unfold Ed.chk; rw [HA.out, Bool.true_and])
      have HBW := Lib.hid hbel
      have HSZ := Lib.hid hsz
      clear hbel hsz HA
      go_wp2_with fail
      go_loopw [21] (fun i w2 => ∃ k : Nat, k ≤ bn ∧ i = .int .i64 k ∧ (∀ j, j < k → Ed.numOk (e.drop.getD j 0) = true) ∧ w2 = wr) (fun i _ => bn - (intOf i).toNat)
      case atStart => exact ⟨0, Nat.zero_le _, rfl, fun j hj => by omega, rfl⟩
      case round =>
        obtain ⟨m, hm, rfl, hyes, rfl⟩ := hrel
        have HY := Lib.hid hyes; clear hyes
        by_cases hmt : m < bn
        · obtain ⟨rfl, hbl, c0⟩ := HDC.out m hmt
          have c0 := (HBW.out.cell (p := ⟨bd, od + m, none⟩) hbl).trans c0
          have hbr : bd < wr.heap.size := by have := HSZ.out; omega
          have HKL : Hid (m < e.drop.length) := Lib.hid (by rw [HDL.out]; exact hmt)
          generalize hx : e.drop.getD m 0 = x at *
          have HX := Lib.hid hx; clear hx
          have HM : Hid (∀ W, Calls Try.prog 85 #[.int .u64 (x : Nat)] W fun e w' => e = .returned (.bool (Ed.numOk x)) ∧ w' = W) := Lib.hid (fun W => isNumber_any x W)
          by_cases hok : Ed.numOk x = true
          · rw [hok] at HM
            go_wp2_with fail
            refine (HM.out _).mono ?_
            rintro r w1 ⟨rfl, rfl⟩
            go_wp2_with fail
            go_roundw
            case rel =>
              refine ⟨m + 1, by omega, by go_num, fun j hj => ?_, by first | trivial | rfl⟩
              by_cases e : j = m
              · rw [e, HX.out]; exact hok
              · exact HY.out j (by omega)
            case measure => simp [intOf]; omega
          · have hno : Ed.numOk x = false := by simpa using hok
            rw [hno] at HM
            have HZ : Hid (Ed.chk e.add e.drop = 1) := Lib.hid (by rw [HE.out, all_no HKL.out (by rw [HX.out]; exact hno)]; simp)
            clear hok hno
            go_wp2_with fail
            refine (HM.out _).mono ?_
            rintro r w1 ⟨rfl, rfl⟩
            go_wp2_with fail
            go_ret
            rw [HZ.out]
            exact ⟨rfl, HBW.out⟩
        · have HZ : Hid (Ed.chk e.add e.drop = 0) := Lib.hid (by rw [HE.out, all_yes (fun j hj => HY.out j (by rw [HDL.out] at hj; omega))]; simp)
          go_wp2_with fail
          go_ret
          rw [HZ.out]
          exact ⟨rfl, HBW.out⟩

end Go.Proofs.Ytbdoekogoiijeaa
