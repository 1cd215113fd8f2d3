/- A list that is nil, or lies in memory: what it tells. -/
import Derived.Test.YtghfgffgcknbmaaSkX
namespace Go.Proofs.Ytghfgffgcknbmaa.Sk
open Go Go.RowKit
set_option linter.unusedVariables false

theorem findNil (K : ByteArray) (w : World) : Calls Try.prog 43 #[.pointer none, .string K] w fun e w' => e = .returned (.int .i64 0) ∧ w' = w := by
  go_enter Try.func43, Try.ntmps43
  go_wp2_with fail
  go_ret
  exact ⟨rfl, rfl⟩
theorem isAtNil (K : ByteArray) (w : World) : Calls Try.prog 35 #[.pointer none, .int .i64 0, .string K] w fun e w' => e = .returned (.bool false) ∧ w' = w := by
  go_enter Try.func35, Try.ntmps35
  go_wp2_with fail
  go_ret
  exact ⟨rfl, rfl⟩
theorem setNil (K V : ByteArray) (H : Int) (w : World) : Calls Try.prog 13 #[.pointer none, .string K, .string V, .int .i64 H] w fun e w' => e = .returned (.bool false) ∧ w' = w := by
  go_enter Try.func13, Try.ntmps13
  go_wp2_with fail
  go_ret
  exact ⟨rfl, rfl⟩
theorem lenNil (w : World) : Calls Try.prog 15 #[.pointer none] w fun e w' => e = .returned (.int .i64 0) ∧ w' = w := by
  go_enter Try.func15, Try.ntmps15
  go_wp2_with fail
  go_ret
  exact ⟨rfl, rfl⟩
theorem rowNil (H : Int) (w : World) : Calls Try.prog 31 #[.pointer none, .int .i64 H] w fun e w' => e = .returned (.slice none 0 0) ∧ w' = w := by
  go_enter Try.func31, Try.ntmps31
  go_wp2_with fail
  go_ret
  exact ⟨rfl, rfl⟩
theorem towersNil (w : World) : Calls Try.prog 32 #[.pointer none] w fun e w' => e = .returned (.slice none 0 0) ∧ w' = w := by
  go_enter Try.func32, Try.ntmps32
  go_wp2_with fail
  go_ret
  exact ⟨rfl, rfl⟩
theorem getNil (K : ByteArray) (w : World) : Calls Try.prog 30 #[.pointer none, .string K] w fun e w' => e = .returned (getV none) ∧ w' = w := by
  have HF := Lib.hid (findNil K w)
  have HI := Lib.hid (isAtNil K w)
  go_enter Try.func30, Try.ntmps30
  go_wp2_with fail
  refine HF.out.mono ?_
  rintro e w2 ⟨rfl, rfl⟩
  go_wp2_with fail
  refine HI.out.mono ?_
  rintro e w3 ⟨rfl, rfl⟩
  go_wp2_with fail
  refine bodyPost_ret (v := getV none) ?_ rfl ⟨rfl, rfl⟩
  simp [results, Try.results30, getV, ByteArray.empty, ByteArray.emptyWithCapacity]
  rfl
theorem tell3 : ∃ a b c, tellV none = .tuple #[a, b, c] := ⟨_, _, _, rfl⟩
theorem seekNil (K : ByteArray) (w : World) : Calls Try.prog 28 #[.pointer none, .string K] w fun e w' => e = .returned (tellV none) ∧ w' = w := by
  have HF := Lib.hid (findNil K w)
  have HT := Lib.hid (tellNone_any w (.pointer none))
  obtain ⟨a, b, c, hT⟩ := tell3
  rw [hT] at HT ⊢
  clear hT
  go_enter Try.func28, Try.ntmps28
  go_wp2_with fail
  refine HF.out.mono ?_
  rintro e w2 ⟨rfl, rfl⟩
  go_wp2_with fail
  refine HT.out.mono ?_
  rintro e w3 ⟨rfl, rfl⟩
  go_wp2_with fail
  refine bodyPost_ret (v := .tuple #[a, b, c]) ?_ rfl ⟨rfl, rfl⟩
  simp [results, Try.results28]
theorem afterNil (K : ByteArray) (w : World) : Calls Try.prog 29 #[.pointer none, .string K] w fun e w' => e = .returned (tellV none) ∧ w' = w := by
  have HF := Lib.hid (findNil K w)
  have HI := Lib.hid (isAtNil K w)
  have HT := Lib.hid (tellNone_any w (.pointer none))
  obtain ⟨a, b, c, hT⟩ := tell3
  rw [hT] at HT ⊢
  clear hT
  go_enter Try.func29, Try.ntmps29
  go_wp2_with fail
  refine HF.out.mono ?_
  rintro e w2 ⟨rfl, rfl⟩
  go_wp2_with fail
  refine HI.out.mono ?_
  rintro e w3 ⟨rfl, rfl⟩
  go_wp2_with fail
  refine HT.out.mono ?_
  rintro e w4 ⟨rfl, rfl⟩
  go_wp2_with fail
  refine bodyPost_ret (v := .tuple #[a, b, c]) ?_ rfl ⟨rfl, rfl⟩
  simp [results, Try.results29]

/-- A list that is nil, or lies in memory. -/
def Lst (w : World) (q : Option Addr) (s r : List (It ByteArray)) : Prop := (q = none ∧ s = [] ∧ r = []) ∨ ∃ L : Lay, q = some ⟨L.b, 0, none⟩ ∧ ListS w L s r
theorem Lst.below {w w' : World} {q : Option Addr} {s r : List (It ByteArray)} (h : Lst w q s r) (hb : Below w.heap.size w w') : Lst w' q s r := by
  rcases h with h | ⟨L, h1, h2⟩
  · exact Or.inl h
  · exact Or.inr ⟨L, h1, h2.below hb⟩
theorem Lst.kin {w : World} {q : Option Addr} {s r : List (It ByteArray)} (h : Lst w q s r) : Kin s r := by
  rcases h with ⟨_, rfl, rfl⟩ | ⟨L, _, h2⟩
  · exact Kin.nil
  · exact h2.kin
theorem Lst.hgt {w : World} {q : Option Addr} {s r : List (It ByteArray)} (h : Lst w q s r) : ∀ y ∈ s, 1 ≤ y.h ∧ y.h ≤ 12 := by
  rcases h with ⟨_, rfl, rfl⟩ | ⟨L, _, h2⟩
  · intro y hy; cases hy
  · exact h2.hgt
theorem Lst.small {w : World} {q : Option Addr} {s r : List (It ByteArray)} (h : Lst w q s r) : ∀ y ∈ r, y.key.length ≤ 1000000 := by
  rcases h with ⟨_, rfl, rfl⟩ | ⟨L, _, h2⟩
  · intro y hy; cases hy
  · intro y hy; exact h2.small y ((h2.kin.mem y).2 hy)
theorem Lst.few {w : World} {q : Option Addr} {s r : List (It ByteArray)} (h : Lst w q s r) : r.length ≤ 100000 := by
  rcases h with ⟨_, rfl, rfl⟩ | ⟨L, _, h2⟩
  · simp
  · exact h2.few
theorem lGet {w : World} {q : Option Addr} {s r : List (It ByteArray)} (h : Lst w q s r) (K : ByteArray) : Calls Try.prog 30 #[.pointer q, .string K] w fun e w' => e = .returned (getV (find K.data.toList s)) ∧ Below w.heap.size w w' := by
  rcases h with ⟨rfl, rfl, rfl⟩ | ⟨L, rfl, h2⟩
  · refine (getNil K w).mono ?_
    rintro e w' ⟨h1, rfl⟩
    exact ⟨h1, Below.refl _ _⟩
  · exact get_any h2 K
theorem lSeek {w : World} {q : Option Addr} {s r : List (It ByteArray)} (h : Lst w q s r) (K : ByteArray) : Calls Try.prog 28 #[.pointer q, .string K] w fun e w' => e = .returned (tellV (seek K.data.toList s)) ∧ Below w.heap.size w w' := by
  rcases h with ⟨rfl, rfl, rfl⟩ | ⟨L, rfl, h2⟩
  · refine (seekNil K w).mono ?_
    rintro e w' ⟨h1, rfl⟩
    exact ⟨h1, Below.refl _ _⟩
  · exact seek_any h2 K
theorem lAfter {w : World} {q : Option Addr} {s r : List (It ByteArray)} (h : Lst w q s r) (K : ByteArray) : Calls Try.prog 29 #[.pointer q, .string K] w fun e w' => e = .returned (tellV (after K.data.toList s)) ∧ Below w.heap.size w w' := by
  rcases h with ⟨rfl, rfl, rfl⟩ | ⟨L, rfl, h2⟩
  · refine (afterNil K w).mono ?_
    rintro e w' ⟨h1, rfl⟩
    exact ⟨h1, Below.refl _ _⟩
  · exact after_any h2 K
theorem rowL_nil (H : Int) : rowL H ([] : List (It ByteArray)) = [] := by unfold rowL; split <;> rfl
theorem lRow {w : World} {q : Option Addr} {s r : List (It ByteArray)} (h : Lst w q s r) (H : Int) : Calls Try.prog 31 #[.pointer q, .int .i64 H] w fun e w' => ∃ v, e = .returned v ∧ w'.ownsRow w.heap.size 9 1 v (rowL H s).length (keyCells (rowL H s)) ∧ Below w.heap.size w w' := by
  rcases h with ⟨rfl, rfl, rfl⟩ | ⟨L, rfl, h2⟩
  · refine (rowNil H w).mono ?_
    rintro e w' ⟨h1, rfl⟩
    rw [rowL_nil]
    exact ⟨_, h1, World.ownsRow_nil .., Below.refl _ _⟩
  · exact rows_any h2 H
theorem lTowers {w : World} {q : Option Addr} {s r : List (It ByteArray)} (h : Lst w q s r) : Calls Try.prog 32 #[.pointer q] w fun e w' => ∃ v, e = .returned v ∧ w'.ownsRow w.heap.size 3 1 v s.length (hgtCells s) ∧ Below w.heap.size w w' := by
  rcases h with ⟨rfl, rfl, rfl⟩ | ⟨L, rfl, h2⟩
  · refine (towersNil w).mono ?_
    rintro e w' ⟨h1, rfl⟩
    exact ⟨_, h1, World.ownsRow_nil .., Below.refl _ _⟩
  · exact towers_any h2
theorem lLen {w : World} {q : Option Addr} {s r : List (It ByteArray)} (h : Lst w q s r) : Calls Try.prog 15 #[.pointer q] w fun e w' => e = .returned (.int .i64 (r.length : Int)) ∧ w' = w := by
  rcases h with ⟨rfl, rfl, rfl⟩ | ⟨L, rfl, h2⟩
  · exact lenNil w
  · exact len_any h2

end Go.Proofs.Ytghfgffgcknbmaa.Sk
