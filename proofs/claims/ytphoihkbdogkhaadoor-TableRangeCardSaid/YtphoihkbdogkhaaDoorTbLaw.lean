/- What the laws on a builder's table share: Same, what is told, bounds. -/
import Derived.Test.YtphoihkbdogkhaaDoorPk16
import Derived.BigQuiet
namespace Go.Proofs.YtphoihkbdogkhaaDoor.Bn.Tw
open Go Go.RowKit Go.Proofs.YtphoihkbdogkhaaDoor.Tb
open Go.Proofs.YtphoihkbdogkhaaDoor.Bn.Bo (Turns cell_of heap_lt)
set_option linter.unusedVariables false
set_option maxRecDepth 100000

theorem greatE_few {l : List Ent} (h : greatE l = false) : l.length ≤ 100 := by
  unfold greatE greatK at h
  simp only [Bool.or_eq_false_iff, decide_eq_false_iff_not, List.length_map] at h
  omega
theorem toldT_agg (A : List Ent) : ∃ (t0 : Nat) (t1 t2 t3 : Int) (t4 t5 : ByteArray) (t6 t7 : Nat), toldT A = .agg #[.int .u64 (t0 : Int), .int .i64 t1, .int .i64 t2, .int .i64 t3, .string t4, .string t5, .int .u64 (t6 : Int), .int .u64 (t7 : Int)] := by
  unfold toldT
  split
  · exact ⟨0, 0, 0, 0, ⟨#[]⟩, ⟨#[]⟩, 0, 0, rfl⟩
  · exact ⟨_, _, _, _, _, _, _, _, rfl⟩

set_option maxHeartbeats 2000000 in
theorem same_ents {w : World} {b1 b2 : Nat} {a c : Option Addr} {n m ac cc : Nat} {l : List Ent} (h1 : OwnsE w b1 (.slice a n ac) l) (h2 : OwnsE w b2 (.slice c m cc) l) (hl : l.length ≤ 1000000) :
    Calls Tryd.prog 24 #[.slice a n ac, .slice c m cc] w (Gives (.bool true) w) := by
  obtain ⟨_, _, e1⟩ := Bo.row_any h1
  obtain ⟨_, _, e2⟩ := Bo.row_any h2
  simp only [Value.slice.injEq] at e1 e2
  obtain ⟨rfl, rfl, rfl⟩ := e1
  obtain ⟨rfl, rfl, rfl⟩ := e2
  have H1 := Lib.hid h1; have H2 := Lib.hid h2
  clear h1 h2
  go_enter Tryd.func24, Tryd.ntmps24
  go_wp2_with fail
  go_loopw [5] (fun i wr => ∃ k : Nat, k ≤ l.length ∧ i = .int .i64 (k : Int) ∧ Below w.heap.size w wr) (fun i _ => l.length - (intOf i).toNat)
  case atStart => exact ⟨0, Nat.zero_le _, rfl, Below.refl _ _⟩
  case round =>
    obtain ⟨k, hk, rfl, hbel⟩ := hrel
    have HBE := Lib.hid hbel
    by_cases hlt : k < l.length
    · have HLT := Lib.hid hlt
      obtain ⟨e, he⟩ : ∃ e, l[k]? = some e := ⟨_, List.getElem?_eq_getElem hlt⟩
      obtain ⟨g, rfl, hg, c0, c1, c2, c3⟩ := OwnsE.at (OwnsE.below H1.out hbel) he
      obtain ⟨g2, rfl, hg2, d0, d1, d2, d3⟩ := OwnsE.at (OwnsE.below H2.out hbel) he
      obtain ⟨EK, EV, EQ, EG⟩ := e
      dsimp only at c0 c1 c2 c3 d0 d1 d2 d3
      clear he hbel
      go_wp2_with fail
      go_quiet (fail)
      go_wp2_with fail
      go_roundw
      case rel => exact ⟨k + 1, by have := HLT.out; omega, by go_num, ⟨HBE.out.os, HBE.out.tape, HBE.out.output, HBE.out.size, HBE.out.block⟩⟩
      case measure => have := HLT.out; simp [intOf]; omega
    · go_wp2_with fail
      go_ret
      exact ⟨rfl, HBE.out⟩
end Go.Proofs.YtphoihkbdogkhaaDoor.Bn.Tw
