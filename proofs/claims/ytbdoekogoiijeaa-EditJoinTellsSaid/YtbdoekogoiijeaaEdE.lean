/- Walks of edit's reader: pass, number, integer, key. -/
import Derived.Test.YtbdoekogoiijeaaEdD
namespace Go.Proofs.Ytbdoekogoiijeaa
open Go.RowKit Sk
set_option linter.unusedVariables false
set_option maxRecDepth 20000

/-- A reader that lies at a block. -/
def Rd (w : World) (b : Nat) (s : ByteArray) (bad : Bool) : Prop := w.heap[b]? = some (.cells #[.string s, .bool bad] 124 (0, 0))
/-- A reader that has what St says. -/
def RdS (w : World) (b : Nat) (s : Ed.St) : Prop := Rd w b ⟨s.rest.toArray⟩ s.bad
theorem Rd.cells {w : World} {b : Nat} {s : ByteArray} {bad : Bool} (h : Rd w b s bad) : w.cell? ⟨b, 0, none⟩ = some (.string s) ∧ w.cell? ⟨b, 1, none⟩ = some (.bool bad) ∧ w.frozen? ⟨b, 0, none⟩ = false ∧ w.frozen? ⟨b, 1, none⟩ = false ∧ b < w.heap.size :=
  ⟨by rw [Sk.cell_of h]; rfl, by rw [Sk.cell_of h]; rfl, Sk.unfrozen_of h 0, Sk.unfrozen_of h 1, Sk.heap_lt h⟩
theorem Rd.frame {w w' : World} {b : Nat} {s : ByteArray} {bad : Bool} (h : Rd w b s bad) (hb : Below w.heap.size w w') : Rd w' b s bad := kept_block h hb
theorem RdS.frame {w w' : World} {b : Nat} {s : Ed.St} (h : RdS w b s) (hb : Below w.heap.size w w') : RdS w' b s := kept_block h hb
theorem Rd.set0 {w : World} {b : Nat} {s : ByteArray} {bad : Bool} (h : Rd w b s bad) (s' : ByteArray) : Rd (w.setCell ⟨b, 0, none⟩ (.string s')) b s' bad := heap_setCell_same w b 0 _ _ _ h
theorem Rd.set1 {w : World} {b : Nat} {s : ByteArray} {bad : Bool} (h : Rd w b s bad) (c : Bool) : Rd (w.setCell ⟨b, 1, none⟩ (.bool c)) b s c := heap_setCell_same w b 1 _ _ _ h
/-- Blocks that are b alone. -/
abbrev At (b : Nat) : Nat → Prop := fun k => k = b
theorem At.trans {b : Nat} {w w1 w2 : World} (h : Turns (At b) w w1) (k : Turns (At b) w1 w2) : Turns (At b) w w2 := h.trans k (fun _ hx => Or.inl hx)

theorem drop_mk (l : List UInt8) (k : Nat) (h : k ≤ l.length) : (⟨l.toArray⟩ : ByteArray).extract k (⟨l.toArray⟩ : ByteArray).size = ⟨(l.drop k).toArray⟩ := by
  refine ByteArray.ext (Array.toList_inj.1 ?_)
  rw [Lib.extract_to_end]

set_option maxHeartbeats 1000000 in
theorem pass_any (b : Nat) (s : ByteArray) (bad ok : Bool) (k : Nat) (w : World) (h : Rd w b s bad) (hk : k ≤ s.size) :
    Calls Try.prog 91 #[.pointer (some ⟨b, 0, none⟩), .int .i64 k, .bool ok] w fun e w' => e = .returned (.tuple #[]) ∧ Rd w' b (s.extract k s.size) (bad || !ok) ∧ Turns (At b) w w' := by
  obtain ⟨c0, c1, f0, f1, hlt⟩ := h.cells
  have H0 := Lib.hid (h.set0 (s.extract k s.size))
  have hk' : (k : Int) ≤ s.size := by omega
  have d1 : (w.setCell ⟨b, 0, none⟩ (.string (s.extract k s.size))).cell? ⟨b, 1, none⟩ = some (.bool bad) := H0.out.cells.2.1
  have g1 : (w.setCell ⟨b, 0, none⟩ (.string (s.extract k s.size))).frozen? ⟨b, 1, none⟩ = false := H0.out.cells.2.2.2.1
  have HT : Hid (∀ u v, Turns (At b) w ((w.setCell ⟨b, 0, none⟩ u).setCell ⟨b, 1, none⟩ v)) := Lib.hid (fun u v => At.trans (Turns.of_setCell (P := At b) _ _ _ rfl) (Turns.of_setCell (P := At b) _ _ _ rfl))
  clear h
  cases bad with
  | true =>
    have HQ : Hid (∀ o, (true || o) = true) := Lib.hid (fun o => rfl)
    have HR : Hid (Rd ((w.setCell ⟨b, 0, none⟩ (.string (s.extract k s.size))).setCell ⟨b, 1, none⟩ (.bool true)) b (s.extract k s.size) true) := Lib.hid (H0.out.set1 true)
    go_enter Try.func91, Try.ntmps91
    go_wp2_with fail
    go_end0
    refine ⟨rfl, ?_, HT.out _ _⟩
    rw [HQ.out]
    exact HR.out
  | false =>
    cases ok with
    | true =>
      have HR : Hid (Rd ((w.setCell ⟨b, 0, none⟩ (.string (s.extract k s.size))).setCell ⟨b, 1, none⟩ (.bool false)) b (s.extract k s.size) false) := Lib.hid (H0.out.set1 false)
      go_enter Try.func91, Try.ntmps91
      go_wp2_with fail
      go_end0
      exact ⟨rfl, HR.out, HT.out _ _⟩
    | false =>
      have HR : Hid (Rd ((w.setCell ⟨b, 0, none⟩ (.string (s.extract k s.size))).setCell ⟨b, 1, none⟩ (.bool true)) b (s.extract k s.size) true) := Lib.hid (H0.out.set1 true)
      go_enter Try.func91, Try.ntmps91
      go_wp2_with fail
      go_end0
      exact ⟨rfl, HR.out, HT.out _ _⟩

/-- A value is read; but for the reader all is as it was. -/
def Readd (b : Nat) (v : Value) (s : Ed.St) (w : World) (e : Ending) (w' : World) : Prop := e = .returned v ∧ RdS w' b s ∧ Turns (At b) w w'

set_option maxHeartbeats 1000000 in
theorem number_any (b : Nat) (s : Ed.St) (w : World) (h : RdS w b s) (hs : s.rest.length ≤ 1000000000) :
    Calls Try.prog 72 #[.pointer (some ⟨b, 0, none⟩)] w (Readd b (.int .u64 ((Ed.num s).1 : Nat)) (Ed.num s).2 w) := by
  obtain ⟨l, bad⟩ := s
  have h' : Rd w b ⟨l.toArray⟩ bad := h
  obtain ⟨c0, -, -, -, hlt⟩ := h'.cells
  have hsz : (⟨l.toArray⟩ : ByteArray).size = l.length := size_mk l
  have HRV : Hid (∀ W, Calls Try.prog 90 #[.string ⟨l.toArray⟩] W fun e w' => e = .returned (rvV l) ∧ W = w') := Lib.hid (fun W => readVar_any ⟨l.toArray⟩ W (by rw [hsz]; simp only at hs; omega))
  have H := Lib.hid h'
  cases hv : Nm.rv l with
  | none =>
    have HV : Hid (rvV l = .tuple #[.int .u64 0, .int .i64 0, .bool false]) := Lib.hid (rvV_none hv)
    have HE : Hid (Ed.num ⟨l, bad⟩ = (0, ⟨l, true⟩)) := Lib.hid (by unfold Ed.num; simp only [hv])
    have HP : Hid (∀ W, Rd W b ⟨l.toArray⟩ bad → Calls Try.prog 91 #[.pointer (some ⟨b, 0, none⟩), .int .i64 0, .bool false] W fun e w' => e = .returned (.tuple #[]) ∧ Rd w' b ⟨l.toArray⟩ true ∧ Turns (At b) W w') := Lib.hid (fun W hW => by
      have k := pass_any b ⟨l.toArray⟩ bad false 0 W hW (Nat.zero_le _)
      rw [drop_mk l 0 (Nat.zero_le _)] at k
      simpa using k)
    clear h h' hv hsz hs
    go_enter Try.func72, Try.ntmps72
    go_wp2_with fail
    refine (HRV.out _).mono ?_
    rintro e w1 ⟨rfl, rfl⟩
    rw [HV.out]
    go_wp2_with fail
    refine (HP.out _ H.out).mono ?_
    rintro e w2 ⟨rfl, hr, ht⟩
    go_wp2_with fail
    go_ret
    rw [HE.out]
    exact ⟨rfl, hr, ht⟩
  | some x =>
    obtain ⟨n, k⟩ := x
    have HV : Hid (rvV l = .tuple #[.int .u64 n, .int .i64 k, .bool true]) := Lib.hid (rvV_some hv)
    have HE : Hid (Ed.num ⟨l, bad⟩ = (n, ⟨l.drop k, bad⟩)) := Lib.hid (by unfold Ed.num; simp only [hv])
    have hkl : k ≤ l.length := (Nm.row_rv hv).2.1
    have HP : Hid (∀ W, Rd W b ⟨l.toArray⟩ bad → Calls Try.prog 91 #[.pointer (some ⟨b, 0, none⟩), .int .i64 k, .bool true] W fun e w' => e = .returned (.tuple #[]) ∧ Rd w' b ⟨(l.drop k).toArray⟩ bad ∧ Turns (At b) W w') := Lib.hid (fun W hW => by
      have e := pass_any b ⟨l.toArray⟩ bad true k W hW (by rw [hsz]; exact hkl)
      rw [drop_mk l k hkl] at e
      simpa using e)
    clear h h' hv hsz hs hkl
    go_enter Try.func72, Try.ntmps72
    go_wp2_with fail
    refine (HRV.out _).mono ?_
    rintro e w1 ⟨rfl, rfl⟩
    rw [HV.out]
    go_wp2_with fail
    refine (HP.out _ H.out).mono ?_
    rintro e w2 ⟨rfl, hr, ht⟩
    go_wp2_with fail
    go_ret
    rw [HE.out]
    exact ⟨rfl, hr, ht⟩

theorem num_bound (s : Ed.St) : (Ed.num s).1 < 18446744073709551616 := by
  unfold Ed.num
  cases hv : Nm.rv s.rest with
  | none => simp
  | some x => exact (Nm.row_rv (n := x.1) (k := x.2) hv).2.2.2
theorem num_le (s : Ed.St) : (Ed.num s).2.rest.length ≤ s.rest.length := by
  unfold Ed.num
  cases hv : Nm.rv s.rest with
  | none => exact Nat.le_refl _
  | some x => simp
theorem int_le (s : Ed.St) : (Ed.int s).2.rest.length ≤ s.rest.length := by
  unfold Ed.int
  split
  · exact num_le s
  · exact num_le s
theorem key_le (s : Ed.St) : (Ed.key s).2.rest.length ≤ s.rest.length := by
  unfold Ed.key
  cases hv : rt s.rest 64 with
  | none => exact Nat.le_refl _
  | some x => simp
theorem int_bound (s : Ed.St) : (Ed.int s).1 ≤ 9223372036854775807 := by
  unfold Ed.int
  split
  · simp
  · omega

set_option maxHeartbeats 1000000 in
theorem integer_any (b : Nat) (s : Ed.St) (w : World) (h : RdS w b s) (hs : s.rest.length ≤ 1000000000) :
    Calls Try.prog 100 #[.pointer (some ⟨b, 0, none⟩)] w (Readd b (.int .i64 ((Ed.int s).1 : Nat)) (Ed.int s).2 w) := by
  have HN := Lib.hid (number_any b s w h hs)
  have hn := num_bound s
  by_cases hc : 9223372036854775807 < (Ed.num s).1
  · have HE : Hid (Ed.int s = (0, ⟨(Ed.num s).2.rest, true⟩)) := Lib.hid (by unfold Ed.int; rw [if_pos hc])
    generalize Ed.num s = x at *
    obtain ⟨n, s1⟩ := x
    simp only at hc HN HE hn
    have hc' : (9223372036854775807 : Int) < n := by omega
    clear hc h
    go_enter Try.func100, Try.ntmps100
    go_wp2_with fail
    refine HN.out.mono ?_
    rintro e w1 ⟨rfl, hr, ht⟩
    obtain ⟨c0, c1, f0, f1, hlt⟩ := Rd.cells hr
    have HR : Hid (RdS (w1.setCell ⟨b, 1, none⟩ (.bool true)) b ⟨s1.rest, true⟩) := Lib.hid (Rd.set1 hr true)
    have HT : Hid (Turns (At b) w (w1.setCell ⟨b, 1, none⟩ (.bool true))) := Lib.hid (At.trans ht (Turns.of_setCell (P := At b) _ _ _ rfl))
    clear hr ht
    go_wp2_with fail
    go_ret
    rw [HE.out]
    exact ⟨rfl, HR.out, HT.out⟩
  · have HE : Hid (Ed.int s = Ed.num s) := Lib.hid (by unfold Ed.int; rw [if_neg hc])
    rw [HE.out]
    generalize Ed.num s = x at *
    obtain ⟨n, s1⟩ := x
    simp only at hc HN hn ⊢
    have hc' : ¬ (9223372036854775807 : Int) < n := by omega
    have hw : IntKind.i64.wrap (n : Int) = n := by rw [IntKind.wrap_i64]; omega
    clear hc h HE
    go_enter Try.func100, Try.ntmps100
    go_wp2_with fail
    refine HN.out.mono ?_
    rintro e w1 ⟨rfl, hr, ht⟩
    go_wp2_with fail
    go_ret
    exact ⟨rfl, hr, ht⟩

set_option maxHeartbeats 1000000 in
theorem key_any (b : Nat) (s : Ed.St) (w : World) (h : RdS w b s) (hs : s.rest.length ≤ 1000000000) :
    Calls Try.prog 101 #[.pointer (some ⟨b, 0, none⟩)] w (Readd b (.string (Ed.key s).1) (Ed.key s).2 w) := by
  obtain ⟨l, bad⟩ := s
  have h' : Rd w b ⟨l.toArray⟩ bad := h
  obtain ⟨c0, -, -, -, hlt⟩ := h'.cells
  have hsz : (⟨l.toArray⟩ : ByteArray).size = l.length := size_mk l
  have HRT : Hid (∀ W, Calls Try.prog 108 #[.string ⟨l.toArray⟩, .int .i64 64] W (Gives (rtV l 64) W)) := Lib.hid (fun W => readText_any ⟨l.toArray⟩ 64 W (by rw [hsz]; simp only at hs; omega) (by omega))
  have H := Lib.hid h'
  cases hv : rt l 64 with
  | none =>
    have HV : Hid (rtV l 64 = .tuple #[.string ByteArray.empty, .int .i64 0, .bool false]) := Lib.hid (by unfold rtV; rw [hv]; rfl)
    have HE : Hid (Ed.key ⟨l, bad⟩ = (ByteArray.empty, ⟨l, true⟩)) := Lib.hid (by unfold Ed.key; simp only [hv])
    have HP : Hid (∀ W, Rd W b ⟨l.toArray⟩ bad → Calls Try.prog 91 #[.pointer (some ⟨b, 0, none⟩), .int .i64 0, .bool false] W fun e w' => e = .returned (.tuple #[]) ∧ Rd w' b ⟨l.toArray⟩ true ∧ Turns (At b) W w') := Lib.hid (fun W hW => by
      have k := pass_any b ⟨l.toArray⟩ bad false 0 W hW (Nat.zero_le _)
      rw [drop_mk l 0 (Nat.zero_le _)] at k
      simpa using k)
    clear h h' hv hsz hs
    go_enter Try.func101, Try.ntmps101
    go_wp2_with fail
    refine (HRT.out _).mono ?_
    rintro e w1 ⟨rfl, hb1⟩
    have HB := Lib.hid hb1
    clear hb1
    rw [HV.out]
    go_wp2_with fail
    refine (HP.out _ (H.out.frame HB.out)).mono ?_
    rintro e w2 ⟨rfl, hr, ht⟩
    have HT : Hid (Turns (At b) w w2) := Lib.hid (At.trans (Turns.of_below HB.out) ht)
    clear ht
    go_wp2_with fail
    go_ret
    rw [HE.out]
    exact ⟨rfl, hr, HT.out⟩
  | some x =>
    obtain ⟨t, k⟩ := x
    have HV : Hid (rtV l 64 = .tuple #[.string ⟨t.toArray⟩, .int .i64 k, .bool true]) := Lib.hid (by unfold rtV; rw [hv])
    have HE : Hid (Ed.key ⟨l, bad⟩ = (⟨t.toArray⟩, ⟨l.drop k, bad⟩)) := Lib.hid (by unfold Ed.key; simp only [hv])
    have hkl : k ≤ l.length := (Ed.row_rt hv).2.2.1
    have HP : Hid (∀ W, Rd W b ⟨l.toArray⟩ bad → Calls Try.prog 91 #[.pointer (some ⟨b, 0, none⟩), .int .i64 k, .bool true] W fun e w' => e = .returned (.tuple #[]) ∧ Rd w' b ⟨(l.drop k).toArray⟩ bad ∧ Turns (At b) W w') := Lib.hid (fun W hW => by
      have e := pass_any b ⟨l.toArray⟩ bad true k W hW (by rw [hsz]; exact hkl)
      rw [drop_mk l k hkl] at e
      simpa using e)
    clear h h' hv hsz hs hkl
    go_enter Try.func101, Try.ntmps101
    go_wp2_with fail
    refine (HRT.out _).mono ?_
    rintro e w1 ⟨rfl, hb1⟩
    have HB := Lib.hid hb1
    clear hb1
    rw [HV.out]
    go_wp2_with fail
    refine (HP.out _ (H.out.frame HB.out)).mono ?_
    rintro e w2 ⟨rfl, hr, ht⟩
    have HT : Hid (Turns (At b) w w2) := Lib.hid (At.trans (Turns.of_below HB.out) ht)
    clear ht
    go_wp2_with fail
    go_ret
    rw [HE.out]
    exact ⟨rfl, hr, HT.out⟩

end Go.Proofs.Ytbdoekogoiijeaa
