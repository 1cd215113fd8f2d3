/- Walks of strings.Builder's copyCheck and WriteString, over this program. -/
import Derived.Test.YtbdoekogoiijeaaEdB
import Derived.Test.YtbdoekogoiijeaaBtPlain
import Derived.Laws.Externs
namespace Go.Proofs.Ytbdoekogoiijeaa
open Go.RowKit
set_option maxRecDepth 20000

theorem info_bld : (Try.prog.info? 114).map (·.size) = some 2 := by kernel_rfl
theorem lies_bld : liesAt Try.prog Try.prog.depth 114 (2 / Try.prog.cellsOf 114) 0 114 1 = true := by kernel_rfl

theorem byteCells_append (a b : List UInt8) : Lib.byteCells (a ++ b) = Lib.byteCells a ++ Lib.byteCells b := by simp [Lib.byteCells]

/-- A builder that is the call's own, from a block on. -/
def Bld (base b : Nat) (l : List UInt8) (w : World) : Prop := Lib.IsBuilder 114 5 base b (Lib.byteCells l) w

set_option maxHeartbeats 1000000 in
theorem copyCheck_used (b : Nat) (w : World) (h0 : w.cell? ⟨b, 0, none⟩ = some (.pointer (some ⟨b, 0, none⟩))) :
    Calls Try.prog 86 #[.pointer (some ⟨b, 0, none⟩)] w fun e w' => e = .returned (.tuple #[]) ∧ w' = w := by
  obtain ⟨j, hj, _⟩ := Option.map_eq_some_iff.1 info_bld
  have hne := Lib.run_neq_ptr_same w (P := Try.prog) ⟨b, 0, none⟩ Try.underlying111 hj
  go_enter Try.func86, Try.ntmps86
  go_wp2_with fail
  go_end0
  exact ⟨rfl, rfl⟩

set_option maxHeartbeats 1000000 in
theorem copyCheck_fresh (b : Nat) (w : World) (h0 : w.cell? ⟨b, 0, none⟩ = some (.pointer none)) (hsh : w.shape? b = some (114, 2)) (hfz : w.frozen? ⟨b, 0, none⟩ = false) :
    Calls Try.prog 86 #[.pointer (some ⟨b, 0, none⟩)] w fun e w' => e = .returned (.tuple #[]) ∧ w' = w.setCell ⟨b, 0, none⟩ (.pointer (some ⟨b, 0, none⟩)) := by
  obtain ⟨j, hj, hjs⟩ := Option.map_eq_some_iff.1 info_bld
  have hTU := Lib.run_to_unsafe w (P := Try.prog) (src := 111) (dst := 150) ⟨b, 0, none⟩ Try.underlying111 Try.underlying150 hj (by rw [hjs]; decide) hsh (Nat.zero_lt_succ 1)
  have hFU := Lib.run_from_unsafe w (P := Try.prog) (src := 150) (dst := 111) ⟨b, 0, none⟩ Try.underlying150 Try.underlying111 hj hsh lies_bld
  go_enter Try.func86, Try.ntmps86
  go_wp2_with fail
  rw [run_callFunc_extern Try.func97 (by kernel_rfl) (by kernel_rfl) (by kernel_rfl) (e := Extern.AbiNoEscape.same) (by kernel_rfl), Lib.run_noEscape]
  simp only [Result.andThen]
  rw [Oper.upon_value]
  go_wp2_with fail
  go_end0
  exact ⟨rfl, rfl⟩

/-- A builder of which one byte was written has its own address in it. -/
def Used (base b : Nat) (l : List UInt8) (w : World) : Prop := Lib.BuilderAt 114 5 base b (.pointer (some ⟨b, 0, none⟩)) (Lib.byteCells l) w
theorem Used.bld {base b : Nat} {l : List UInt8} {w : World} (h : Used base b l w) : Bld base b l w := Or.inr h
theorem Bld.new (w : World) : Bld w.heap.size w.heap.size [] (w.alloc (.cells #[.pointer none, .slice none 0 0] 114)) := Lib.fresh_isBuilder _ _ w

theorem copyCheck_any (base b : Nat) (l : List UInt8) (w : World) (h : Bld base b l w) :
    Calls Try.prog 86 #[.pointer (some ⟨b, 0, none⟩)] w fun e w' => e = .returned (.tuple #[]) ∧ Used base b l w' ∧ Below base w w' := by
  rcases h with h | h
  · refine (copyCheck_fresh b w h.cell0 h.shape h.frozen0).mono ?_
    rintro e w' ⟨rfl, rfl⟩
    exact ⟨rfl, h.used _, (Below.refl base w).setCell (p := ⟨b, 0, none⟩) h.1 _⟩
  · refine (copyCheck_used b w h.cell0).mono ?_
    rintro e w' ⟨rfl, rfl⟩
    exact ⟨rfl, h, Below.refl base _⟩

set_option maxHeartbeats 1000000 in
theorem writeString_any (base b : Nat) (l : List UInt8) (s : ByteArray) (w : World) (h : Bld base b l w) (hlen : l.length + s.size ≤ 100000000) (hbw : base ≤ w.heap.size) :
    Calls Try.prog 65 #[.pointer (some ⟨b, 0, none⟩), .string s] w fun e w' => e = .returned (.tuple #[.int .i64 s.size, .nilIface]) ∧ Used base b (l ++ s.data.toList) w' ∧ Below base w w' := by
  obtain ⟨i0, hi, hz0, hz1, hz2⟩ := info_parts info_u8
  have HB := Lib.hid h; clear h
  have HL := Lib.hid hlen; clear hlen
  go_enter Try.func65, Try.ntmps65
  go_wp2_with fail
  refine (copyCheck_any base b l _ HB.out).mono ?_
  rintro e w1 ⟨rfl, h1, hb1⟩
  obtain ⟨hB, v, hbk, hown, hne⟩ := h1
  have hsz1 := hb1.size
  have hlt : b < w1.heap.size := by
    rcases Nat.lt_or_ge b w1.heap.size with h' | h'
    · exact h'
    · rw [Array.getElem?_eq_none h'] at hbk; cases hbk
  have c0 : w1.cell? ⟨b, 0, none⟩ = some (.pointer (some ⟨b, 0, none⟩)) := by rw [Lib.cell_of_heap hbk]; rfl
  have c1 : w1.cell? ⟨b, 1, none⟩ = some v := by rw [Lib.cell_of_heap hbk]; rfl
  have HBK := Lib.hid hbk; have HNE := Lib.hid hne; have HB1 := Lib.hid hb1
  clear hbk hne hb1
  rw [Lib.byteCells_length] at hown
  go_wp2_with (at_builtin; go_must (refine Lib.wpList_append_own_string _ rfl _ _ 112 9 rfl base 5 i0 Try.underlying112 Try.underlying9 hi hz0 hz1 hz2 _ _ _ rfl hown s rfl ?c3 ?c4 ?c5 ?_))
  case c3 => have := HL.out; unfold maxLen; omega
  case c4 => have := HL.out; omega
  case c5 => omega
  intro v' w2 hown' hgrow _
  have hb2 : w2.heap[b]? = some (.cells #[.pointer (some ⟨b, 0, none⟩), v] 114 (0, 0)) := by
    rw [hgrow.block b hlt (fun e => HNE.out e.symm)]
    exact HBK.out
  have HU : Hid (Used base b (l ++ s.data.toList) (w2.setCell ⟨b, 1, none⟩ v')) := by
    refine Lib.hid (Lib.BuilderAt.put hB hb2 (bs' := Lib.byteCells (l ++ s.data.toList)) ?_ (by decide))
    rw [byteCells_append, List.length_append, Lib.byteCells_length, Lib.byteCells_length, length_list]
    exact hown'
  have HBB : Hid (Below base w (w2.setCell ⟨b, 1, none⟩ v')) := Lib.hid ((HB1.out.grown hgrow (by omega) (fun k hk => (hown.lt k hk).1)).setCell (p := ⟨b, 1, none⟩) hB _)
  have d0 : w2.cell? ⟨b, 0, none⟩ = some (.pointer (some ⟨b, 0, none⟩)) := by rw [Lib.cell_of_heap hb2]; rfl
  have d1 : w2.cell? ⟨b, 1, none⟩ = some v := by rw [Lib.cell_of_heap hb2]; rfl
  have f1 : w2.frozen? ⟨b, 1, none⟩ = false := Lib.frozen_of_heap hb2 1
  obtain ⟨ao, n', cap, rfl⟩ : ∃ ao n' cap, v' = .slice ao n' cap := by
    rcases hown'.2 with ⟨hv, _⟩ | ⟨g, cap, cur, hv, _⟩
    · exact ⟨_, _, _, hv⟩
    · exact ⟨_, _, _, hv⟩
  clear hown hown' hgrow hb2
  go_wp2_with fail
  go_ret2
  exact ⟨rfl, HU.out, HBB.out⟩

theorem string_any (base b : Nat) (l : List UInt8) (w : World) (h : Bld base b l w) (hbw : base ≤ w.heap.size) :
    Calls Try.prog 69 #[.pointer (some ⟨b, 0, none⟩)] w fun e w' => e = .returned (.string ⟨l.toArray⟩) ∧ Below base w w' := Try.Builder_String_any base b l w h hbw

theorem ownsRow_below {w w' : World} {base : Nat} {e : TypeId} {z n : Nat} {v : Value} {xs : List Value} (h : w.ownsRow base e z v n xs) (hb : Below w.heap.size w w') : w'.ownsRow base e z v n xs := Sk.ownsRow_below h hb
theorem Bld.below {base b : Nat} {l : List UInt8} {w w' : World} (h : Bld base b l w) (hb : Below w.heap.size w w') : Bld base b l w' := by
  have key : ∀ p, Lib.BuilderAt 114 5 base b p (Lib.byteCells l) w → Lib.BuilderAt 114 5 base b p (Lib.byteCells l) w' := by
    rintro p ⟨hB, v, hbk, hown, hne⟩
    exact ⟨hB, v, kept_block hbk hb, ownsRow_below hown hb, hne⟩
  exact h.imp (key _) (key _)
theorem Bld.alloc {base b : Nat} {l : List UInt8} {w : World} (h : Bld base b l w) (o : Obj) : Bld base b l (w.alloc o) := h.below ((Below.refl _ _).alloc (Nat.le_refl _) o)

set_option maxHeartbeats 1000000 in
theorem len_any (base b : Nat) (l : List UInt8) (w : World) (h : Used base b l w) :
    Calls Try.prog 68 #[.pointer (some ⟨b, 0, none⟩)] w fun e w' => e = .returned (.int .i64 l.length) ∧ w' = w := by
  obtain ⟨hB, v, hbk, hown, hne⟩ := h
  have c1 : w.cell? ⟨b, 1, none⟩ = some v := by rw [Lib.cell_of_heap hbk]; rfl
  obtain ⟨ao, cap, rfl⟩ := Sk.row_any hown
  rw [Lib.byteCells_length] at c1
  clear hbk hown hne
  go_enter Try.func68, Try.ntmps68
  go_wp2_with fail
  go_ret
  exact ⟨rfl, rfl⟩

end Go.Proofs.Ytbdoekogoiijeaa
