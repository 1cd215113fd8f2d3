/- The walk of num.Big. -/
import Derived.Test.YtjpmcphfiiiecaaNumWalkD
namespace Go.Proofs.Ytjpmcphfiiiecaa
open Go.RowKit

/-- A string and an error come back; what was there is as it was. -/
def Told (l : List UInt8) (e : Int) (w : World) (x : Ending) (w' : World) : Prop := x = .returned (.tuple #[.string ⟨l.toArray⟩, .int .i64 e]) ∧ Below w.heap.size w w'

/-- What Big answers: the bytes, and the error's number. -/
def bigL (n x : Int) : List UInt8 := if x < 1 ∨ 8 < x then [] else if x < Nm.wid n.toNat then [] else Nm.big n.toNat x.toNat
def bigE (n x : Int) : Int := if x < 1 ∨ 8 < x then 1 else if x < Nm.wid n.toNat then 3 else 0

set_option maxHeartbeats 400000 in
theorem big_any (n x : Int) (w : World) (h0 : 0 ≤ n) (h1 : n ≤ 18446744073709551615) :
    Calls Try.prog 42 #[.int .u64 n, .int .i64 x] w (Told (bigL n x) (bigE n x) w) := by
  have HH := Lib.hid h1; clear h1
  by_cases hx : x < 1 ∨ 8 < x
  · have HX := Lib.hid hx
    have HL : Hid (bigL n x = []) := by unfold bigL; rw [if_pos hx]; exact rfl
    have HE : Hid (bigE n x = 1) := by unfold bigE; rw [if_pos hx]; exact rfl
    clear hx
    go_enter Try.func42, Try.ntmps42
    go_wp2_with fail
    refine (isWidth_no _ _ HX.out).mono ?_
    rintro e w' ⟨rfl, rfl⟩
    go_wp2_with fail
    go_ret2
    rw [HL.out, HE.out]
    exact ⟨rfl, Below.refl _ _⟩
  · have hx1 : 1 ≤ x := by omega
    have hx2 : x ≤ 8 := by omega
    by_cases hw : x < Nm.wid n.toNat
    · have HL : Hid (bigL n x = []) := by unfold bigL; rw [if_neg hx, if_pos hw]; exact rfl
      have HE : Hid (bigE n x = 3) := by unfold bigE; rw [if_neg hx, if_pos hw]; exact rfl
      clear hx
      go_enter Try.func42, Try.ntmps42
      go_wp2_with fail
      refine (isWidth_yes _ _ hx1 hx2).mono ?_
      rintro e w' ⟨rfl, rfl⟩
      go_wp2_with fail
      refine (widthOf_any _ _ h0 HH.out).mono ?_
      rintro e w' ⟨rfl, rfl⟩
      go_wp2_with fail
      go_ret2
      rw [HL.out, HE.out]
      exact ⟨rfl, Below.refl _ _⟩
    · have HL : Hid (bigL n x = Nm.big n.toNat x.toNat) := by unfold bigL; rw [if_neg hx, if_neg hw]; exact rfl
      have HE : Hid (bigE n x = 0) := by unfold bigE; rw [if_neg hx, if_neg hw]; exact rfl
      clear hx
      go_enter Try.func42, Try.ntmps42
      go_wp2_with fail
      refine (isWidth_yes _ _ hx1 hx2).mono ?_
      rintro e w' ⟨rfl, rfl⟩
      go_wp2_with fail
      refine (widthOf_any _ _ h0 HH.out).mono ?_
      rintro e w' ⟨rfl, rfl⟩
      go_wp2_with fail
      refine (appendBig_any w.heap.size _ [] _ _ _ (Owns.nil _ _) (Nat.le_refl _) (by simp) h0 (by omega) (by omega)).mono ?_
      rintro e w1 ⟨v1, rfl, ho1, hb1⟩
      rw [List.nil_append] at ho1
      have hc := ho1.convert
      clear ho1
      go_wp2_with fail
      go_ret2
      rw [HL.out, HE.out]
      exact ⟨rfl, hb1⟩

end Go.Proofs.Ytjpmcphfiiiecaa
