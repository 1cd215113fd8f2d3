/- The walk of NumKnown. -/
import Derived.Test.YtledehjgaencmaaNumAwake
namespace Go.Proofs.Ytledehjgaencmaa
open Go.RowKit

def knownTexts : List ByteArray := [⟨#[248, 247]⟩, ⟨#[249, 0, 255]⟩, ⟨#[249, 1]⟩, ⟨#[]⟩]
theorem known_none0 : rvV [248, 247] = .tuple #[.int .u64 0, .int .i64 0, .bool false] := by kernel_rfl
theorem known_none1 : rvV [249, 0, 255] = .tuple #[.int .u64 0, .int .i64 0, .bool false] := by kernel_rfl
theorem known_none2 : rvV [249, 1] = .tuple #[.int .u64 0, .int .i64 0, .bool false] := by kernel_rfl
theorem known_none3 : rvV [] = .tuple #[.int .u64 0, .int .i64 0, .bool false] := by kernel_rfl
theorem known_none : ∀ k, k < 4 → rvV (knownTexts.getD k ByteArray.empty).data.toList = .tuple #[.int .u64 0, .int .i64 0, .bool false] := by
  intro k hk
  match k, hk with
  | 0, _ => exact known_none0
  | 1, _ => exact known_none1
  | 2, _ => exact known_none2
  | 3, _ => exact known_none3
theorem known_size : ∀ k, (knownTexts.getD k ByteArray.empty).size ≤ 9223372036854775807 := by
  intro k
  match k with
  | 0 => decide
  | 1 => decide
  | 2 => decide
  | 3 => decide
  | _ + 4 => simp [knownTexts]
theorem varl_known : varl [0, 247, 248, 256, 18446744073709551615] = [0, 247, 248, 248, 249, 1, 0, 255, 255, 255, 255, 255, 255, 255, 255, 255] := by kernel_rfl
theorem textl_known : textl [⟨#[97, 98]⟩, ⟨#[]⟩] = [2, 97, 98, 0] := by kernel_rfl
theorem bigE_known1 : bigE 256 1 = 3 := by kernel_rfl
theorem bigE_known2 : bigE 0 9 = 1 := by kernel_rfl
theorem bigL_known1 : bigL 256 1 = [] := by kernel_rfl
theorem bigL_known2 : bigL 0 9 = [] := by kernel_rfl
theorem rtV_known1 : rtV (⟨#[2, 97, 98]⟩ : ByteArray).data.toList 1 = .tuple #[.string ⟨#[]⟩, .int .i64 0, .bool false] := by kernel_rfl
theorem rtV_known2 : rtV (⟨#[2, 97]⟩ : ByteArray).data.toList 9 = .tuple #[.string ⟨#[]⟩, .int .i64 0, .bool false] := by kernel_rfl

theorem sees_builtS {w : World} {cs : Array Value} {t : TypeId} {ss : List ByteArray} (h : ∀ i, i < ss.length → cs[i]? = some (.string (ss.getD i ByteArray.empty))) (cap : Nat) :
    SeesS (w.alloc (.cells cs t)) (.slice (some ⟨w.heap.size, 0, none⟩) ss.length cap) ss := by
  refine Or.inr ⟨w.heap.size, 0, cap, rfl, by simp, fun i hi => ?_⟩
  rw [World.cell?_alloc_mark, Nat.zero_add]
  exact h i hi

theorem varl_nil : varl [] = [] := rfl
theorem known_cells (w : World) : ∀ k, k < 4 → (w.alloc (.cells #[.string ⟨#[248, 247]⟩, .string ⟨#[249, 0, 255]⟩, .string ⟨#[249, 1]⟩, .string ⟨#[]⟩] 9)).cell? ⟨w.heap.size, k, none⟩ = some (.string (knownTexts.getD k ByteArray.empty)) := by
  intro k hk
  rw [World.cell?_alloc_mark]
  match k, hk with
  | 0, _ => rfl
  | 1, _ => rfl
  | 2, _ => rfl
  | 3, _ => rfl

set_option maxHeartbeats 2000000 in
theorem known_walk (w : World) : Calls Try.prog 3 #[] w (Gives (.bool true) w) := by
  go_enter Try.func3, Try.ntmps3
  go_wp2_with fail
  refine (var_any _ [0, 247, 248, 256, 18446744073709551615] _ (sees_built (ns := [0, 247, 248, 256, 18446744073709551615]) (fun i hi => ?_) 5) (fun i => ?_) (by decide)).mono ?_
  · match i, hi with
    | 0, _ => rfl
    | 1, _ => rfl
    | 2, _ => rfl
    | 3, _ => rfl
    | 4, _ => rfl
  · match i with
    | 0 => decide
    | 1 => decide
    | 2 => decide
    | 3 => decide
    | 4 => decide
    | _ + 5 => simp
  rintro e w1 ⟨rfl, hb1⟩
  rw [varl_known]
  go_wp2_with fail
  refine (var_any _ [] _ (Or.inl ⟨rfl, _, _, rfl⟩) (fun i => by simp) (by decide)).mono ?_
  rintro e w2 ⟨rfl, hb2⟩
  rw [varl_nil]
  go_wp2_with fail
  have HC := Lib.hid (known_cells w2)
  generalize hW : w2.alloc (.cells #[.string ⟨#[248, 247]⟩, .string ⟨#[249, 0, 255]⟩, .string ⟨#[249, 1]⟩, .string ⟨#[]⟩] 9) = W at *
  have HB : Hid (Below w.heap.size w W) := by
    rw [← hW]
    exact Below.next_alloc (Below.next (Below.next (Below.next_alloc (Below.refl _ _) _) hb1) hb2) _
  clear hb1 hb2 hW
  go_loop [25] (fun i => ∃ k : Nat, k ≤ 4 ∧ i = .int .i64 k) (fun i => 4 - (intOf i).toNat)
  case atStart => exact ⟨0, by omega, rfl⟩
  case round =>
    obtain ⟨k, hk, rfl⟩ := hrel
    by_cases hlt : k < 4
    · have hcell := HC.out k hlt
      have HN := Lib.hid (known_none k hlt)
      have HZ := Lib.hid (known_size k)
      generalize knownTexts.getD k ByteArray.empty = x at *
      go_wp2_with fail
      refine (readVar_any _ _ HZ.out).mono ?_
      rintro e w' ⟨rfl, rfl⟩
      rw [HN.out]
      go_wp2_with fail
      go_round
      case rel => exact ⟨k + 1, by omega, by go_num⟩
      case measure => simp [intOf]; omega
    · go_wp2_with fail
      refine (big_any _ _ _ (by decide) (by decide)).mono ?_
      rintro e w3 ⟨rfl, hb3⟩
      rw [bigL_known1, bigE_known1]
      go_wp2_with fail
      refine (big_any _ _ _ (by decide) (by decide)).mono ?_
      rintro e w4 ⟨rfl, hb4⟩
      rw [bigL_known2, bigE_known2]
      go_wp2_with fail
      refine (readText_any _ _ _ (by decide) (by decide)).mono ?_
      rintro e w5 ⟨rfl, hb5⟩
      rw [rtV_known1]
      go_wp2_with fail
      refine (readText_any _ _ _ (by decide) (by decide)).mono ?_
      rintro e w6 ⟨rfl, hb6⟩
      rw [rtV_known2]
      go_wp2_with fail
      refine (text_any _ [⟨#[97, 98]⟩, ⟨#[]⟩] _ (sees_builtS (ss := [⟨#[97, 98]⟩, ⟨#[]⟩]) (fun i hi => ?_) 2) (by decide) (by decide)).mono ?_
      · match i, hi with
        | 0, _ => rfl
        | 1, _ => rfl
      rintro e w7 ⟨rfl, hb7⟩
      rw [textl_known]
      go_wp2_with fail
      refine (awake_any _).mono ?_
      rintro e w8 ⟨rfl, hb8⟩
      go_wp2_with fail
      go_ret
      exact ⟨rfl, Below.next (Below.next (Below.next_alloc (Below.next (Below.next (Below.next (Below.next HB.out hb3) hb4) hb5) hb6) _) hb7) hb8⟩

end Go.Proofs.Ytledehjgaencmaa
