/- The walks of the document's four, least, Seek, Add of layer 11. -/
import Derived.Test.YtjpmcphfiiiecaaBoN
import Derived.Test.YtjpmcphfiiiecaaRefTextT
import Derived.Test.YtjpmcphfiiiecaaRefBigT
namespace Go.Proofs.Ytjpmcphfiiiecaa.Bo
open Go Go.RowKit
set_option linter.unusedVariables false

theorem least_any (a b : Int) (w : World) : Calls Try.prog 39 #[.int .i64 a, .int .i64 b] w fun e w' => e = .returned (.int .i64 (min a b)) ∧ w = w' := by
  by_cases h : a < b
  · have e : min a b = a := by omega
    rw [e]
    clear e
    go_enter Try.func39, Try.ntmps39
    go_wp2_with fail
    go_ret
    exact ⟨rfl, rfl⟩
  · have e : min a b = b := by omega
    rw [e]
    clear e
    go_enter Try.func39, Try.ntmps39
    go_wp2_with fail
    go_ret
    exact ⟨rfl, rfl⟩

theorem big4 (n : Nat) : Nm.big n 4 = [UInt8.ofNat (n / 16777216), UInt8.ofNat (n / 65536), UInt8.ofNat (n / 256), UInt8.ofNat n] := by
  simp only [Nm.big, List.nil_append, List.cons_append, Nat.div_div_eq_div_mul]
theorem u8_of (n : Nat) : IntKind.u8.wrap (n : Int) = ((UInt8.ofNat n).toNat : Int) := by rw [Nm.toNat_ofNat]; rw [IntKind.wrap_u8]; omega
theorem u8_of' (n : Nat) : ((n : Int) % 256) = ((UInt8.ofNat n).toNat : Int) := by rw [Nm.toNat_ofNat]; omega
theorem four_any (n : Nat) (w : World) (hn : n ≤ 4000000000) : Calls Try.prog 35 #[.int .i64 (n : Int)] w (Gives (.string (place n)) w) := by
  obtain ⟨A3, h3⟩ : ∃ q : Nat, q = n / 16777216 := ⟨_, rfl⟩
  obtain ⟨A2, h2⟩ : ∃ q : Nat, q = n / 65536 := ⟨_, rfl⟩
  obtain ⟨A1, h1⟩ : ∃ q : Nat, q = n / 256 := ⟨_, rfl⟩
  have d3 : (n : Int) / 16777216 = A3 := by omega
  have d2 : (n : Int) / 65536 = A2 := by omega
  have d1 : (n : Int) / 256 = A1 := by omega
  have t3 : Int.tdiv (n : Int) 16777216 = A3 := by rw [Int.tdiv_eq_ediv_of_nonneg (by omega)]; exact d3
  have t2 : Int.tdiv (n : Int) 65536 = A2 := by rw [Int.tdiv_eq_ediv_of_nonneg (by omega)]; exact d2
  have t1 : Int.tdiv (n : Int) 256 = A1 := by rw [Int.tdiv_eq_ediv_of_nonneg (by omega)]; exact d1
  have k3 : (A3 : Int) ≤ 4000000 := by omega
  have k2 : (A2 : Int) ≤ 4000000 := by omega
  have k1 : (A1 : Int) ≤ 40000000 := by omega
  have v3 := u8_of' A3
  have v2 := u8_of' A2
  have v1 := u8_of' A1
  have v0 := u8_of' n
  have w3 := u8_of A3
  have w2 := u8_of A2
  have w1 := u8_of A1
  have w0 := u8_of n
  have hp : Hid (place n = ⟨#[UInt8.ofNat A3, UInt8.ofNat A2, UInt8.ofNat A1, UInt8.ofNat n]⟩) := Lib.hid (by unfold place; rw [big4, h3, h2, h1])
  clear h3 h2 h1
  generalize UInt8.ofNat A3 = b3 at *
  generalize UInt8.ofNat A2 = b2 at *
  generalize UInt8.ofNat A1 = b1 at *
  generalize UInt8.ofNat n = b0 at *
  have hcv : ∀ W : World, (convert 22 9 (.slice (some ⟨W.heap.size, 0, none⟩) 4 4)).run Try.prog (W.alloc (.cells #[.int .u8 (b3.toNat : Int), .int .u8 (b2.toNat : Int), .int .u8 (b1.toNat : Int), .int .u8 (b0.toNat : Int)] 5)) = .ok (.string ⟨#[b3, b2, b1, b0]⟩) (W.alloc (.cells #[.int .u8 (b3.toNat : Int), .int .u8 (b2.toNat : Int), .int .u8 (b1.toNat : Int), .int .u8 (b0.toNat : Int)] 5)) := fun W => by
    refine run_convert_bytes_back (P := Try.prog) _ 22 9 5 ⟨W.heap.size, 0, none⟩ 4 [b3, b2, b1, b0] Try.underlying22 Try.underlying5 Try.underlying9 (fun j hj => ?_)
    rw [add_none, cell_of (heap_alloc_new W _)]
    match j, hj with
    | 0, _ => rfl
    | 1, _ => rfl
    | 2, _ => rfl
    | 3, _ => rfl
  rw [hp.out]
  clear hn
  go_enter Try.func35, Try.ntmps35
  go_wp2_with fail
  go_ret
  exact ⟨rfl, (Below.refl _ _).alloc (Nat.le_refl _) _⟩

set_option maxHeartbeats 1000000 in
theorem refSeek_any (a : Option Addr) (n c : Nat) (l : List En) (key : ByteArray) (w : World) (hs : SeesN w a l) (hl : l.length = n) (hn : n ≤ 1000000) :
    Calls Try.prog 23 #[.slice a n c, .string key] w fun e w' => e = .returned (.int .i64 (seekN l key : Int)) ∧ w = w' := by
  have HS := Lib.hid hs; have HL := Lib.hid hl
  have HE : Hid (∀ k, k ≤ l.length → (∀ i e, l[i]? = some e → i < k → Op.bytesLess e.key.data.toList key.data.toList = true) → (∀ e, l[k]? = some e → Op.bytesLess e.key.data.toList key.data.toList = false) → seekN l key = k) := Lib.hid (fun k hk h1 h2 => seekN_eq hk h1 h2)
  clear hs hl
  generalize seekN l key = R at *
  go_enter Try.func23, Try.ntmps23
  go_wp2_with fail
  go_loop [5] (fun i => ∃ k : Nat, k ≤ n ∧ i = .int .i64 k ∧ Hid (∀ i e, l[i]? = some e → i < k → Op.bytesLess e.key.data.toList key.data.toList = true)) (fun i => n - (intOf i).toNat)
  case atStart => exact ⟨0, Nat.zero_le _, rfl, Lib.hid (fun i e h hi => by omega)⟩
  case round =>
    obtain ⟨k, hk, rfl, HK⟩ := hrel
    by_cases hlt : k < n
    · obtain ⟨x, hx⟩ : ∃ x, l[k]? = some x := ⟨_, List.getElem?_eq_getElem (by rw [HL.out]; exact hlt)⟩
      obtain ⟨g, rfl, hg, c0, -⟩ := HS.out k x hx
      have HX := Lib.hid hx
      have hki : (k : Int) < n := by omega
      have hk0 : (0 : Int) ≤ k := by omega
      obtain ⟨xk, xv⟩ := x
      dsimp only at *
      cases hc : Op.bytesLess xk.data.toList key.data.toList with
      | true =>
        have hlt1 : Op.bytesLess xk.toList key.toList = true := by rw [ByteArray.toList_eq, ByteArray.toList_eq]; exact hc
        have HC := Lib.hid hc
        clear hc hx
        go_wp2_with fail
        go_round
        case rel => exact ⟨k + 1, by omega, by go_num, Lib.hid (fun i e h hi => by
          by_cases h2 : i < k
          · exact HK.out i e h h2
          · obtain rfl : i = k := by omega
            rw [HX.out] at h
            simp only [Option.some.injEq] at h
            subst h
            exact HC.out)⟩
        case measure => simp [intOf]; omega
      | false =>
        have hlt1 : Op.bytesLess xk.toList key.toList = false := by rw [ByteArray.toList_eq, ByteArray.toList_eq]; exact hc
        have HR := Lib.hid (HE.out k (by rw [HL.out]; exact hk) HK.out (fun e h => by
          rw [hx] at h
          simp only [Option.some.injEq] at h
          subst h
          exact hc))
        clear hc hx
        go_wp2_with fail
        go_ret
        rw [HR.out]
        exact ⟨rfl, rfl⟩
    · obtain rfl : k = n := by omega
      have HR := Lib.hid (HE.out k (by rw [HL.out]; exact Nat.le_refl _) HK.out (fun e h => by
        rw [List.getElem?_eq_none (by rw [HL.out]; exact Nat.le_refl _)] at h
        cases h))
      go_wp2_with fail
      go_ret
      rw [HR.out]
      exact ⟨rfl, rfl⟩
end Go.Proofs.Ytjpmcphfiiiecaa.Bo
