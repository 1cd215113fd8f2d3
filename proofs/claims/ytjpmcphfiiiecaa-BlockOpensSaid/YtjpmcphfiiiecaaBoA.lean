/- The walks of block.isRestart, placeRow, common, Count, Size, Finish. -/
import Derived.Test.YtjpmcphfiiiecaaBoHeap
import Derived.Test.YtjpmcphfiiiecaaNumBig
import Derived.Test.YtjpmcphfiiiecaaNumVarU
namespace Go.Proofs.Ytjpmcphfiiiecaa.Bo
open Go Go.RowKit
set_option linter.unusedVariables false

theorem isRestart_any (n : Nat) (w : World) (hn : n ≤ 1000000000) :
    Calls Try.prog 24 #[.int .i64 (n : Int)] w fun e w' => e = .returned (.bool (decide (n % 4 = 0))) ∧ w = w' := by
  by_cases h : n % 4 = 0
  · have h4 : ((n : Int) % 4 == 0) = true := by simp; omega
    have h5 : (Int.tmod (n : Int) 4 == 0) = true := by rw [Int.tmod_eq_emod_of_nonneg (by omega)]; exact h4
    go_enter Try.func24, Try.ntmps24
    go_wp2_with fail
    go_ret
    rw [decide_eq_true h]
    exact ⟨rfl, rfl⟩
  · have h4 : ((n : Int) % 4 == 0) = false := by simp; omega
    have h5 : (Int.tmod (n : Int) 4 == 0) = false := by rw [Int.tmod_eq_emod_of_nonneg (by omega)]; exact h4
    go_enter Try.func24, Try.ntmps24
    go_wp2_with fail
    go_ret
    rw [decide_eq_false h]
    exact ⟨rfl, rfl⟩

def place (n : Nat) : ByteArray := ⟨(Nm.big n 4).toArray⟩
theorem place_size (n : Nat) : (place n).size = 4 := by show (Nm.big n 4).toArray.size = 4; rw [List.size_toArray, Nm.big_length]
theorem place_list (n : Nat) : (place n).data.toList = Nm.big n 4 := rfl
theorem placeRow_any (n : Nat) (w : World) (hn : n < 4294967296) :
    Calls Try.prog 25 #[.int .i64 (n : Int)] w (Gives (.string (place n)) w) := by
  have hb : Told (bigL n 4) (bigE n 4) = Told (Nm.big n 4) 0 := by
    have h1 : Nm.wid n ≤ 4 := (Nm.wid_le (by omega) (by omega)).2 (by simpa using hn)
    have e1 : bigL n 4 = Nm.big n 4 := by unfold bigL; rw [if_neg (by omega), if_neg (by rw [Int.toNat_natCast]; omega)]; rfl
    have e2 : bigE n 4 = 0 := by unfold bigE; rw [if_neg (by omega), if_neg (by rw [Int.toNat_natCast]; omega)]
    rw [e1, e2]
  have HB : Hid (∀ W, Calls Try.prog 42 #[.int .u64 (n : Int), .int .i64 4] W (Told (Nm.big n 4) 0 W)) := Lib.hid (fun W => by
    have := big_any (n : Int) 4 W (by omega) (by omega)
    rwa [hb] at this)
  clear hb
  unfold place
  generalize Nm.big n 4 = X at *
  go_enter Try.func25, Try.ntmps25
  go_wp2_with fail
  refine (HB.out _).mono ?_
  rintro e w1 ⟨rfl, hb⟩
  go_wp2_with fail
  go_ret
  exact ⟨rfl, hb⟩

set_option maxHeartbeats 1000000 in
theorem common_any (a b : ByteArray) (w : World) (ha : a.size ≤ 281474976710656) (hb : b.size ≤ 281474976710656) :
    Calls Try.prog 26 #[.string a, .string b] w (Gives (.int .i64 (cm a.data.toList b.data.toList : Int)) w) := by
  obtain ⟨m, hm⟩ : ∃ m, m = min a.size b.size := ⟨_, rfl⟩
  have hma : m ≤ a.size := by omega
  have hmb : m ≤ b.size := by omega
  have hmi : min (a.size : Int) (b.size : Int) = (m : Int) := by omega
  have HX : Hid (∀ i (h : i < m) (h1 : i < a.size) (h2 : i < b.size), (∀ j, j < i → a.data.toList[j]? = b.data.toList[j]?) → a[i] ≠ b[i] → cm a.data.toList b.data.toList = i) := Lib.hid (fun i h h1 h2 hs hne => by
    refine cm_eq (by rw [len]; omega) (by rw [len]; omega) hs (Or.inr (Or.inr ?_))
    rw [List.getElem?_eq_getElem (by rw [len]; omega), List.getElem?_eq_getElem (by rw [len]; omega)]
    intro e
    simp only [Option.some.injEq] at e
    exact hne e)
  have HY : Hid ((∀ j, j < m → a.data.toList[j]? = b.data.toList[j]?) → cm a.data.toList b.data.toList = m) := Lib.hid (fun hs => by
    refine cm_eq (by rw [len]; omega) (by rw [len]; omega) hs ?_
    rw [len, len]; omega)
  have HM := Lib.hid hm; clear hm
  generalize cm a.data.toList b.data.toList = C at *
  go_enter Try.func26, Try.ntmps26
  go_wp2_with fail
  clear hmi
  go_loopw [13] (fun i wr => ∃ k : Nat, k ≤ m ∧ i = .int .i64 k ∧ Hid (∀ j, j < k → a.data.toList[j]? = b.data.toList[j]?) ∧ Hid (Below w.heap.size w wr)) (fun i _ => m - (intOf i).toNat)
  case atStart => exact ⟨0, Nat.zero_le _, rfl, Lib.hid (fun j hj => by omega), Lib.hid (Below.refl _ _)⟩
  case round =>
    obtain ⟨k, hk, rfl, HS, HB⟩ := hrel
    by_cases hlt : k < m
    · have h1 : k < a.size := by omega
      have h2 : k < b.size := by omega
      have ia := index_byte a k h1
      have ib := index_byte b k h2
      have HE : Hid (a[k] = b[k] → a.data.toList[k]? = b.data.toList[k]?) := Lib.hid (fun e => by
        rw [List.getElem?_eq_getElem (by rw [len]; omega), List.getElem?_eq_getElem (by rw [len]; omega)]
        exact congrArg some e)
      have HN := Lib.hid (HX.out k hlt h1 h2 HS.out)
      generalize a[k] = x at *
      generalize b[k] = y at *
      by_cases e : x = y
      · have HEE := Lib.hid (HE.out e)
        have hxy : ((x.toNat : Int) == (y.toNat : Int)) = true := by rw [e]; simp
        clear HN HE
        subst e
        go_wp2_with fail
        go_region
        go_wp2_with fail
        go_roundw
        case rel => exact ⟨k + 1, by omega, by go_num, Lib.hid (fun j hj => by
          by_cases h : j < k
          · exact HS.out j h
          · obtain rfl : j = k := by omega
            exact HEE.out), Lib.hid HB.out.drew⟩
        case measure => simp [intOf]; omega
      · have hxy : ((x.toNat : Int) == (y.toNat : Int)) = false := by
          have : x.toNat ≠ y.toNat := fun h => e (UInt8.toNat.inj h)
          simp; omega
        have HC := Lib.hid (HN.out e)
        clear HN HE e
        go_wp2_with fail
        go_region
        go_wp2_with fail
        go_ret
        rw [HC.out]
        exact ⟨rfl, HB.out.drew⟩
    · obtain rfl : k = m := by omega
      have HC := Lib.hid (HY.out HS.out)
      go_wp2
      go_ret
      rw [HC.out]
      exact ⟨rfl, HB.out⟩
section
variable {w : World} {base : Nat} {L : BL} {s : St}
theorem count_any (h : Built w base L s) :
    Calls Try.prog 10 #[.pointer (some ⟨L.b, 0, none⟩)] w fun e w' => e = .returned (.int .i64 (s.n : Int)) ∧ w' = w := by
  have c2 := h.c2
  clear h
  go_enter Try.func10, Try.ntmps10
  go_wp2_with fail
  go_ret
  exact ⟨rfl, rfl⟩
theorem size_any (h : Built w base L s) (h1 : s.rows.length ≤ 100000000000) (h2 : s.foot.length ≤ 100000000000) :
    Calls Try.prog 9 #[.pointer (some ⟨L.b, 0, none⟩)] w (Gives (.int .i64 ((fin s).length : Int)) w) := by
  obtain ⟨⟨a, ca, ea⟩, b, cb, eb⟩ := h.shapes
  have c0 := h.c0
  have c1 := h.c1
  rw [ea] at c0
  rw [eb] at c1
  have HL : Hid (((fin s).length : Int) = s.rows.length + s.foot.length + 4) := Lib.hid (by rw [fin_length]; omega)
  rw [HL.out]
  clear h ea eb HL
  generalize s.rows.length = x at *
  generalize s.foot.length = y at *
  go_enter Try.func9, Try.ntmps9
  go_wp2_with fail
  go_region
  go_wp2_with fail
  go_ret
  exact ⟨rfl, (Below.refl _ _).drew⟩
end
theorem count_nil (w : World) : Calls Try.prog 10 #[.pointer none] w fun e w' => e = .returned (.int .i64 0) ∧ w' = w := by
  go_enter Try.func10, Try.ntmps10
  go_wp2_with fail
  go_ret
  exact ⟨rfl, rfl⟩
theorem size_nil (w : World) : Calls Try.prog 9 #[.pointer none] w fun e w' => e = .returned (.int .i64 0) ∧ w' = w := by
  go_enter Try.func9, Try.ntmps9
  go_wp2_with fail
  go_ret
  exact ⟨rfl, rfl⟩
theorem finish_nil (w : World) : Calls Try.prog 12 #[.pointer none] w fun e w' => e = .returned (.string ⟨#[]⟩) ∧ w' = w := by
  go_enter Try.func12, Try.ntmps12
  go_wp2_with fail
  go_ret
  exact ⟨rfl, rfl⟩
theorem add_nil (k v : ByteArray) (w : World) : Calls Try.prog 11 #[.pointer none, .string k, .string v] w fun e w' => e = .returned (.int .i64 2) ∧ w' = w := by
  go_enter Try.func11, Try.ntmps11
  go_wp2_with fail
  go_ret
  exact ⟨rfl, rfl⟩
end Go.Proofs.Ytjpmcphfiiiecaa.Bo
