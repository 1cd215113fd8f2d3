/- The document's Less. -/
import Derived.Test.YtghfgffgcknbmaaSkTwo
import Derived.Test.YtghfgffgcknbmaaSkLt
import Derived.Deep.QuietTactic
import Derived.BigQuiet
namespace Go.Proofs.Ytghfgffgcknbmaa.Sk
open Go Go.RowKit
set_option linter.unusedVariables false

theorem before_eq {a b : List UInt8} {k : Nat} {x y : UInt8} (hx : a[k]? = some x) (hy : b[k]? = some y) : bytesBefore (a.drop k) (b.drop k) = (decide (x < y) || (x == y && bytesBefore (a.drop (k + 1)) (b.drop (k + 1)))) := by
  obtain ⟨h1, rfl⟩ := List.getElem?_eq_some_iff.1 hx
  obtain ⟨h2, rfl⟩ := List.getElem?_eq_some_iff.1 hy
  rw [List.drop_eq_getElem_cons h1, List.drop_eq_getElem_cons h2]
  rfl
theorem before_end {a b : List UInt8} {k : Nat} (h : a.length ≤ k ∨ b.length ≤ k) : bytesBefore (a.drop k) (b.drop k) = decide (a.length - k < b.length - k) := by
  by_cases h1 : a.length ≤ k
  · rw [List.drop_of_length_le h1]
    by_cases h2 : b.length ≤ k
    · rw [List.drop_of_length_le h2]; symm; apply decide_eq_false; omega
    · rw [List.drop_eq_getElem_cons (by omega)]; symm; apply decide_eq_true; omega
  · have h2 : b.length ≤ k := h.resolve_left h1
    rw [List.drop_of_length_le h2, List.drop_eq_getElem_cons (by omega)]
    symm; apply decide_eq_false; omega

set_option maxHeartbeats 2000000 in
set_option maxRecDepth 100000 in
theorem less_any (a b : ByteArray) (w : World) (ha : a.size ≤ 1000000) (hb : b.size ≤ 1000000) :
    Calls Try.prog 45 #[.string a, .string b] w fun e w' => e = .returned (.bool (bytesBefore a.data.toList b.data.toList)) ∧ ∃ q, w' = w.drewN q := by
  have H0 : Hid (bytesBefore a.data.toList b.data.toList = bytesBefore (a.data.toList.drop 0) (b.data.toList.drop 0)) := Lib.hid rfl
  have hai : (a.size : Int) ≤ 1000000 := by omega
  have hbi : (b.size : Int) ≤ 1000000 := by omega
  generalize hR : bytesBefore a.data.toList b.data.toList = R at *
  clear hR
  go_enter Try.func45, Try.ntmps45
  go_wp2_with fail
  go_loopw [5] (fun i wr => ∃ k q : Nat, k ≤ a.size ∧ k ≤ b.size ∧ i = .int .i64 (k : Int) ∧ Hid (R = bytesBefore (a.data.toList.drop k) (b.data.toList.drop k)) ∧ wr = w.drewN q) (fun i _ => a.size - (intOf i).toNat)
  case atStart => exact ⟨0, 0, Nat.zero_le _, Nat.zero_le _, rfl, H0, rfl⟩
  case round =>
    obtain ⟨k, q, hk1, hk2, rfl, HR, rfl⟩ := hrel
    by_cases h1 : k < a.size
    · have hi1 : (k : Int) < a.size := by omega
      by_cases h2 : k < b.size
      · have hi2 : (k : Int) < b.size := by omega
        have hix := index_byte a k h1
        have hiy := index_byte b k h2
        have HS : Hid (R = (decide (a[k]'h1 < b[k]'h2) || (a[k]'h1 == b[k]'h2 && bytesBefore (a.data.toList.drop (k + 1)) (b.data.toList.drop (k + 1))))) := Lib.hid (by
          rw [HR.out]
          exact before_eq (by rw [List.getElem?_eq_getElem (by simpa using h1)]; rfl) (by rw [List.getElem?_eq_getElem (by simpa using h2)]; rfl))
        generalize a[k]'h1 = x at *
        generalize b[k]'h2 = y at *
        obtain ⟨X, hX⟩ : ∃ X : Int, X = (x.toNat : Int) := ⟨_, rfl⟩
        obtain ⟨Y, hY⟩ : ∃ Y : Int, Y = (y.toNat : Int) := ⟨_, rfl⟩
        rw [← hX] at hix
        rw [← hY] at hiy
        by_cases e : x = y
        · have HN : Hid (R = bytesBefore (a.data.toList.drop (k + 1)) (b.data.toList.drop (k + 1))) := Lib.hid (by
            rw [HS.out, e]
            simp)
          obtain rfl : X = Y := by rw [hX, hY, e]
          clear e hX hY HS
          go_wp2_with fail
          go_quiet (fail)
          go_wp2_with fail
          go_roundw
          case rel => exact ⟨k + 1, q + nq, by omega, by omega, by go_num, HN, rfl⟩
          case measure => simp [intOf]; omega
        · have HN : Hid (R = decide (X < Y)) := Lib.hid (by
            rw [HS.out, show (x == y) = false from beq_false_of_ne e, Bool.false_and, Bool.or_false, hX, hY]
            by_cases h : x < y
            · rw [decide_eq_true h]
              symm
              apply decide_eq_true
              have := UInt8.lt_iff_toNat_lt.1 h
              omega
            · rw [decide_eq_false h]
              symm
              apply decide_eq_false
              have : ¬ x.toNat < y.toNat := fun h2 => h (UInt8.lt_iff_toNat_lt.2 h2)
              omega)
          have hne : ¬ X = Y := by
            rw [hX, hY]
            intro h
            exact e (UInt8.toNat_inj.1 (by omega))
          clear e hX hY HS
          go_wp2_with fail
          go_quiet (fail)
          go_wp2_with fail
          go_quiet (fail)
          go_wp2_with fail
          go_ret
          rw [HN.out]
          exact ⟨rfl, _, by rw [World.drewN_drewN, World.drewN_drewN]⟩
      · have HE : Hid (R = decide (a.size < b.size)) := Lib.hid (by
          rw [HR.out, before_end (Or.inr (by rw [← Lib.size_eq]; omega)), ← Lib.size_eq, ← Lib.size_eq]
          congr 1
          simp only [eq_iff_iff]
          omega)
        have hi2 : ¬ (k : Int) < b.size := by omega
        clear HR
        go_wp2_with fail
        go_ret
        rw [HE.out]
        refine ⟨?_, q, rfl⟩
        simp
    · have HE : Hid (R = decide (a.size < b.size)) := Lib.hid (by
        rw [HR.out, before_end (Or.inl (by rw [← Lib.size_eq]; omega)), ← Lib.size_eq, ← Lib.size_eq]
        congr 1
        simp only [eq_iff_iff]
        omega)
      have hi2 : ¬ (k : Int) < a.size := by omega
      clear HR
      go_wp2_with fail
      go_ret
      rw [HE.out]
      refine ⟨?_, q, rfl⟩
      simp

end Go.Proofs.Ytghfgffgcknbmaa.Sk
