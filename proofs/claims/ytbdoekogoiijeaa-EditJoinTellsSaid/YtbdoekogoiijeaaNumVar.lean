/- The walk of num.Var. -/
import Derived.Test.YtbdoekogoiijeaaNumClone
import Derived.Lib.AppendStr
namespace Go.Proofs.Ytbdoekogoiijeaa
open Go.RowKit

/-- Numbers' rows, one behind the other. -/
def varl (ns : List Nat) : List UInt8 := ns.flatMap Nm.row
theorem varl_length (ns : List Nat) : (varl ns).length ≤ 9 * ns.length := by
  induction ns with
  | nil => simp [varl]
  | cons n ns ih =>
    have := (Nm.row_length n).2
    simp only [varl, List.flatMap_cons, List.length_append, List.length_cons] at ih ⊢
    omega
theorem varl_snoc (ns : List Nat) (k : Nat) (h : k < ns.length) : varl (ns.take (k + 1)) = varl (ns.take k) ++ Nm.row (ns.getD k 0) := by
  have e : ns.getD k 0 = ns[k] := by simp [h]
  unfold varl
  rw [List.take_succ_eq_append_getElem h, List.flatMap_append, e, List.flatMap_singleton]
/-- A slice of numbers that lies in memory. -/
def SeesU (w : World) (v : Value) (ns : List Nat) : Prop :=
  (ns = [] ∧ ∃ a cap, v = .slice a 0 cap) ∨
  ∃ b off cap, v = .slice (some ⟨b, off, none⟩) ns.length cap ∧ b < w.heap.size ∧ ∀ i, i < ns.length → w.cell? ⟨b, off + i, none⟩ = some (.int .u64 (ns.getD i 0 : Nat))
theorem SeesU.below {w w' : World} {v : Value} {ns : List Nat} (h : SeesU w v ns) (hb : Below w.heap.size w w') : SeesU w' v ns := by
  rcases h with h | ⟨b, off, cap, rfl, hlt, hc⟩
  · exact Or.inl h
  · exact Or.inr ⟨b, off, cap, rfl, Nat.lt_of_lt_of_le hlt hb.size, fun i hi => (hb.cell (p := ⟨b, off + i, none⟩) hlt).trans (hc i hi)⟩
set_option maxHeartbeats 400000 in
theorem var_nil (a : Option Addr) (cap : Nat) (w : World) :
    Calls Try.prog 66 #[.slice a 0 cap] w (Gives (.string ByteArray.empty) w) := by
  have hc := (Owns.nil w w.heap.size).convert
  go_enter Try.func66, Try.ntmps66
  go_wp2_with fail
  refine wp_loop_rounds 1 ?_
  rw [rounds_succ]
  go_wp2_with fail
  go_ret
  exact ⟨rfl, Below.refl _ _⟩

set_option maxHeartbeats 800000 in
theorem var_some (b off cap : Nat) (ns : List Nat) (w : World) (hb : b < w.heap.size) (hc : ∀ i, i < ns.length → w.cell? ⟨b, off + i, none⟩ = some (.int .u64 (ns.getD i 0 : Nat)))
    (hn : ∀ i, ns.getD i 0 < 18446744073709551616) (hl : ns.length ≤ 100000000) :
    Calls Try.prog 66 #[.slice (some ⟨b, off, none⟩) ns.length cap] w (Gives (.string ⟨(varl ns).toArray⟩) w) := by
  have HC := Lib.hid hc; clear hc
  have HN := Lib.hid hn; clear hn
  have hl2 := varl_length ns
  generalize hlen : ns.length = len at *
  have HLEN := Lib.hid hlen; clear hlen
  have HLL := Lib.hid hl2; clear hl2
  have HL := Lib.hid hl
  go_enter Try.func66, Try.ntmps66
  go_wp2_with fail
  go_loopw [3, 8] (fun u i wr => ∃ k : Nat, k ≤ len ∧ i = .int .i64 k ∧ Owns wr w.heap.size u (varl (ns.take k)) ∧ Below w.heap.size w wr) (fun _ i _ => len - (intOf i).toNat)
  case atStart => exact ⟨0, Nat.zero_le _, rfl, by simpa [varl] using Owns.nil w w.heap.size, Below.refl _ _⟩
  case round =>
    obtain ⟨k, hk, rfl, hown, hbel⟩ := hrel
    have hsz := hbel.size
    have HO := Lib.hid hown; clear hown
    by_cases hlt : k < len
    · have hcell : wr.cell? ⟨b, off + k, none⟩ = some (.int .u64 (ns.getD k 0 : Nat)) := (hbel.cell (p := ⟨b, off + k, none⟩) hb).trans (HC.out k hlt)
      have HS : Hid (varl (ns.take (k + 1)) = varl (ns.take k) ++ Nm.row (ns.getD k 0)) := varl_snoc ns k (by rw [HLEN.out]; exact hlt)
      have HX : Hid (ns.getD k 0 < 18446744073709551616) := HN.out k
      generalize ns.getD k 0 = x at *
      go_wp2_with fail
      refine (appendRow_any w.heap.size _ _ _ _ HO.out hsz ?_ (by omega) (by have := HX.out; omega)).mono ?_
      · have h1 := varl_length (ns.take k)
        have h2 : (ns.take k).length ≤ k := List.length_take_le ..
        have h3 := HL.out
        omega
      rintro e w1 ⟨v1, rfl, ho1, hb1⟩
      rw [Int.toNat_natCast, ← HS.out] at ho1
      have HO1 := Lib.hid ho1; clear ho1
      go_wp2_with fail
      go_roundw
      case rel => exact ⟨k + 1, by omega, by go_num, HO1.out, hbel.trans hb1⟩
      case measure => simp [intOf]; omega
    · have hc := HO.out.convert
      go_wp2_with fail
      go_ret
      have : ns.take k = ns := List.take_of_length_le (by rw [HLEN.out]; omega)
      rw [this]
      exact ⟨rfl, hbel⟩

/-- Var, of numbers wherever they lie. -/
theorem var_any (v : Value) (ns : List Nat) (w : World) (hs : SeesU w v ns) (hn : ∀ i, ns.getD i 0 < 18446744073709551616) (hl : ns.length ≤ 100000000) :
    Calls Try.prog 66 #[v] w (Gives (.string ⟨(varl ns).toArray⟩) w) := by
  rcases hs with ⟨rfl, a, cap, rfl⟩ | ⟨b, off, cap, rfl, hb, hc⟩
  · exact var_nil a cap w
  · exact var_some b off cap ns w hb hc hn hl

end Go.Proofs.Ytbdoekogoiijeaa
