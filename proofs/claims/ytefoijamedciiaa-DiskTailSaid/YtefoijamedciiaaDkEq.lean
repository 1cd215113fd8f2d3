/- The walk of slices.EqualFunc over the changes of two disks. -/
import Derived.Test.YtefoijamedciiaaDkSame
namespace Go.Proofs.Ytefoijamedciiaa
open Go.RowKit Go.Maps
open Dk (Dir Chg Disk File Str)

theorem FileTwo.forms {w : World} {a b : Value} (h : FileTwo w a b) : ∃ po qo, a = .pointer po ∧ b = .pointer qo := by
  rcases h with ⟨rfl, rfl | ⟨p, rfl⟩⟩ | ⟨p, q, v, u, f, _, rfl, rfl, _⟩ <;> exact ⟨_, _, rfl, rfl⟩
/-- Two slices of changes with the same names, whose files are the same at two places. -/
def ChgsTwo (w : World) (n : Nat) (a b : Value) : Prop :=
  (n = 0 ∧ (∃ x c, a = .slice x 0 c) ∧ ∃ x c, b = .slice x 0 c) ∨ ∃ ga ca gb cb, a = .slice (some ⟨ga, 0, none⟩) n ca ∧ b = .slice (some ⟨gb, 0, none⟩) n cb ∧ ga < w.heap.size ∧ gb < w.heap.size ∧ ∀ i, i < n → ∃ (s t : ByteArray) (p q : Value), FileTwo w p q ∧
    w.cell? ⟨ga, i * 3, none⟩ = some (.string s) ∧ w.cell? ⟨ga, i * 3 + 1, none⟩ = some (.string t) ∧ w.cell? ⟨ga, i * 3 + 2, none⟩ = some p ∧ w.cell? ⟨gb, i * 3, none⟩ = some (.string s) ∧ w.cell? ⟨gb, i * 3 + 1, none⟩ = some (.string t) ∧ w.cell? ⟨gb, i * 3 + 2, none⟩ = some q
theorem ChgsTwo.under {w w' : World} {n : Nat} {a b : Value} (h : ChgsTwo w n a b) (hb : Below w.heap.size w w') : ChgsTwo w' n a b := by
  rcases h with h | ⟨ga, ca, gb, cb, rfl, rfl, hga, hgb, hc⟩
  · exact Or.inl h
  · refine Or.inr ⟨ga, ca, gb, cb, rfl, rfl, Nat.lt_of_lt_of_le hga hb.size, Nat.lt_of_lt_of_le hgb hb.size, fun i hi => ?_⟩
    obtain ⟨s, t, p, q, hf, a0, a1, a2, b0, b1, b2⟩ := hc i hi
    have ka := hb.block ga hga
    have kb := hb.block gb hgb
    exact ⟨s, t, p, q, hf.under hb, cell_kept a0 ka, cell_kept a1 ka, cell_kept a2 ka, cell_kept b0 kb, cell_kept b1 kb, cell_kept b2 kb⟩

set_option maxHeartbeats 8000000 in
set_option maxRecDepth 100000 in
theorem equalChanges_any (w : World) (n : Nat) (a b : Value) (h : ChgsTwo w n a b) (hn : n ≤ 1099511627776) :
    Calls Try.prog 41 #[a, b, .func (.func 42) #[] #[]] w fun e w' => e = .returned (.bool true) ∧ Below w.heap.size w w' := by
  obtain ⟨xa, ka, xb, kb, rfl, rfl⟩ : ∃ xa ka xb kb, a = .slice xa n ka ∧ b = .slice xb n kb := by
    rcases h with ⟨rfl, ⟨x, c, rfl⟩, y, d, rfl⟩ | ⟨ga, ca, gb, cb, rfl, rfl, _⟩
    · exact ⟨_, _, _, _, rfl, rfl⟩
    · exact ⟨_, _, _, _, rfl, rfl⟩
  have HT := Lib.hid h
  clear h
  go_enter Try.func41, Try.ntmps41
  go_wp2_with fail
  go_loopw [17] (fun z wr => ∃ k : Nat, k ≤ n ∧ z = .int .i64 (k : Int) ∧ Hid (Below w.heap.size w wr)) (fun z _ => n - (intOf z).toNat)
  case atStart => exact ⟨0, by omega, rfl, Lib.hid (Below.refl _ _)⟩
  case round =>
    obtain ⟨k, hk, rfl, HK⟩ := hrel
    by_cases hlt : k < n
    · have hlt2 : (k : Int) < n := by omega
      rcases HT.out.under HK.out with ⟨h0, _⟩ | ⟨ga, ca, gb, cb, h1, h2, hga, hgb, hc⟩
      · omega
      simp only [Value.slice.injEq, true_and] at h1 h2
      obtain ⟨rfl, rfl⟩ := h1
      obtain ⟨rfl, rfl⟩ := h2
      obtain ⟨s, t, p, q, hf, a0, a1, a2, b0, b1, b2⟩ := hc k hlt
      obtain ⟨po, qo, rfl, rfl⟩ := hf.forms
      have HC : Hid (∀ W, Below wr.heap.size wr W → Calls Try.prog 42 #[.agg #[.string s, .string t, .pointer po], .agg #[.string s, .string t, .pointer qo]] W fun e w' => e = .returned (.bool true) ∧ Below W.heap.size W w') := Lib.hid fun W hb => sameChange_any W s t _ _ (hf.under hb)
      have hal := (Below.refl wr.heap.size wr).alloc (Nat.le_refl _) (.cells #[.string s, .string t, .pointer po] 62)
      have e0 : (wr.alloc (.cells #[.string s, .string t, .pointer po] 62)).cell? ⟨gb, k * 3, none⟩ = some (.string s) := cell_kept b0 (hal.block gb hgb)
      have e1 : (wr.alloc (.cells #[.string s, .string t, .pointer po] 62)).cell? ⟨gb, k * 3 + 1, none⟩ = some (.string t) := cell_kept b1 (hal.block gb hgb)
      have e2 : (wr.alloc (.cells #[.string s, .string t, .pointer po] 62)).cell? ⟨gb, k * 3 + 2, none⟩ = some (.pointer qo) := cell_kept b2 (hal.block gb hgb)
      have HAL := Lib.hid (hal.alloc (by simp) (.cells #[.string s, .string t, .pointer qo] 62))
      clear hf hc hga hgb hal
      go_wp2_with fail
      refine (HC.out _ HAL.out).mono ?_
      rintro e w2 ⟨rfl, hb2⟩
      have HB2 := Lib.hid (Below.next HK.out (Below.next HAL.out hb2))
      clear hb2 HC e0 e1 e2 a0 a1 a2 b0 b1 b2
      go_wp2_with fail
      go_roundw
      case rel => exact ⟨k + 1, by omega, by go_num, HB2⟩
      case measure => simp [intOf]; omega
    · obtain rfl : k = n := by omega
      clear hlt
      go_wp2_with fail
      go_ret
      exact ⟨rfl, HK.out⟩

end Go.Proofs.Ytefoijamedciiaa
