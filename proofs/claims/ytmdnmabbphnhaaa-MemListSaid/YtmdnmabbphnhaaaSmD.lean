/- The walks of List.Row, List.Towers over a list that lies in memory. -/
import Derived.Test.YtmdnmabbphnhaaaSmC
import Derived.Maps.AppendAt
namespace Go.Proofs.Ytmdnmabbphnhaaa.Sm
open Go.Proofs.Ytmdnmabbphnhaaa.Sk
open Go Go.RowKit
set_option linter.unusedVariables false

section
variable {α : Type}
theorem nxtI {ks : List Str} {j : Nat} {B : List (It α)} (h : nxt ks j (shape B) ≠ 0) : ∃ B1 y B2, B = B1 ++ y :: B2 ∧ nxt ks j (shape B) = plc ks y.key ∧ j < y.h ∧ ∀ z ∈ B1, ¬ j < z.h := by
  obtain ⟨C1, p, C2, he, hn, hp, h1⟩ := nxt_some h
  unfold shape at he
  obtain ⟨B1, B', rfl, e1, e2⟩ := List.map_eq_append_iff.1 he
  obtain ⟨y, B2, rfl, e3, e4⟩ := List.map_eq_cons_iff.1 e2
  subst e3
  refine ⟨B1, y, B2, rfl, hn, hp, fun z hz => h1 (z.key, z.h) ?_⟩
  rw [← e1]
  exact List.mem_map.2 ⟨z, hz, rfl⟩
theorem row_append (j : Nat) (A B : List (It α)) : row j (A ++ B) = row j A ++ row j B := by unfold row; rw [List.filter_append]
theorem row_none {j : Nat} {A : List (It α)} (h : ∀ z ∈ A, ¬ j < z.h) : row j A = [] := by
  unfold row
  rw [List.filter_eq_nil_iff]
  intro z hz
  simpa using h z hz
theorem row_snoc {j : Nat} {A B1 : List (It α)} {y : It α} (h : ∀ z ∈ B1, ¬ j < z.h) (hy : j < y.h) : row j (A ++ B1 ++ [y]) = row j A ++ [y] := by
  rw [row_append, row_append, row_none h, List.append_nil]
  congr 1
  unfold row
  rw [List.filter_cons_of_pos (by simpa using hy)]
  rfl
/-- The row of a level, as an int says it. -/
def rowL (lev : Int) (s : List (It α)) : List (It α) := if lev < 0 ∨ 12 ≤ lev then [] else row lev.toNat s
end
theorem info_str : (Try.prog.info? 9).map (fun i => (i.zero, i.size, i.bytes)) = some (some (.string ⟨#[]⟩), 1, 16) := by kernel_rfl
theorem info_int : (Try.prog.info? 3).map (fun i => (i.zero, i.size, i.bytes)) = some (some (.int .i64 0), 1, 8) := by kernel_rfl
def keyCells (l : List (It Ent)) : List Value := l.map fun y => .string (txt y.key)
def hgtCells (l : List (It Ent)) : List Value := l.map fun y => .int .i64 (y.h : Int)

set_option maxHeartbeats 4000000 in
set_option maxRecDepth 100000 in
theorem row_in {w : World} {L : Lay} {s r : List (It Ent)} (h : ListS w L s r) (j : Nat) (hj : j < 12) :
    Calls Try.prog 20 #[.pointer (some ⟨L.b, 0, none⟩), .int .i64 (j : Int)] w fun e w' => ∃ v, e = .returned v ∧ w'.ownsRow w.heap.size 9 1 v (row j s).length (keyCells (row j s)) ∧ Below w.heap.size w w' := by
  obtain ⟨i0, hi, hz0, hz1, hz2⟩ := info_parts info_str
  have hlen : s.length ≤ 100000 := by rw [h.kin.len]; exact h.few
  have HU := Lib.hid (shape_up h.kin.up)
  have HK : Hid (∀ z ∈ shape s, z.1 ∈ keys r) := Lib.hid (fun z hz => h.keys_in (A := []) rfl z hz)
  have c0 := h.first (j := j) (by omega)
  have HH := Lib.hid h; clear h
  have hj2 : (j : Int) < 12 := by omega
  have hj1 : ¬ (j : Int) < 0 := by omega
  go_enter Try.func20, Try.ntmps20
  go_wp2_with fail
  go_loopw [5, 6] (fun v p wr => ∃ (A B : List (It Ent)), s = A ++ B ∧ p = .int .i64 (nxt (keys r) j (shape B) : Int) ∧ Hid (wr.ownsRow w.heap.size 9 1 v (row j A).length (keyCells (row j A))) ∧ Hid (Below w.heap.size w wr)) (fun _ p _ => left (keys r) (shape s) (intOf p).toNat)
  case atStart => exact ⟨[], s, rfl, rfl, Lib.hid (World.ownsRow_nil ..), Lib.hid (Below.refl _ _)⟩
  case round =>
    obtain ⟨A, B, hs, rfl, HO, HB⟩ := hrel
    by_cases h0 : nxt (keys r) j (shape B) = 0
    · rw [h0]
      have HE : Hid (row j s = row j A) := Lib.hid (by
        rw [hs, row_append, row_none (A := B), List.append_nil]
        intro z hz
        exact nxt_zero.1 h0 (z.key, z.h) (List.mem_map.2 ⟨z, hz, rfl⟩))
      clear h0 hs
      go_wp2_with fail
      go_ret
      rw [HE.out]
      exact ⟨_, rfl, HO.out, HB.out⟩
    · obtain ⟨B1, y, B2, rfl, hn, hjy, hB1⟩ := nxtI h0
      have hy : y ∈ s := by rw [hs]; simp
      rw [hn]
      have hp := plc_pos (keys r) y.key
      have hne : ¬ ((plc (keys r) y.key : Nat) : Int) = 0 := by omega
      have hpl := HH.out.plc_le hy
      have hks := HH.out.small y hy
      have HN := Lib.hid (fun W (hb : Below w.heap.size w W) => nodeAt_any (HH.out.below hb) hy)
      have HCL := Lib.hid (fun W => clone_any (txt y.key) W (by rw [txt_size]; omega))
      have HL := Lib.hid (fun W (hb : Below w.heap.size w W) => linksAt_any (HH.out.below hb) hy)
      have hsh : shape s = shape (A ++ B1) ++ (y.key, y.h) :: shape B2 := by rw [hs]; simp [shape]
      have HLK := Lib.hid (fun W (hb : Below w.heap.size w W) => (HH.out.below hb).link hsh hjy)
      have HRS : Hid (row j (A ++ B1 ++ [y]) = row j A ++ [y]) := Lib.hid (row_snoc hB1 hjy)
      have HS : Hid (s = (A ++ B1 ++ [y]) ++ B2) := Lib.hid (by rw [hs]; simp)
      have HLT : Hid (left (keys r) (shape s) (nxt (keys r) j (shape B2)) < left (keys r) (shape s) (plc (keys r) y.key)) := Lib.hid (by
        have h1 := left_at (ks := keys r) hsh HU.out HK.out
        have h2 := left_nxt (ks := keys r) (A := shape (A ++ B1 ++ [y])) (B := shape B2) (by rw [HS.out]; simp [shape]) HU.out HK.out j
        rw [h1]; omega)
      have hll : (row j A).length ≤ 100000 := by
        have h1 : (row j A).length ≤ A.length := List.length_filter_le ..
        have h2 : A.length ≤ s.length := by rw [hs]; simp
        omega
      have HLL := Lib.hid hll
      have hraw := HO.out
      have HO2 := HO
      have hj3 : (j : Int) < y.h := by omega
      generalize hnx : nxt (keys r) j (shape B2) = nx at *
      have HNX := Lib.hid hnx
      have HHH := Lib.hid hjy
      generalize plc (keys r) y.key = pc at *
      generalize hrl : row j A = rl at *
      clear h0 hn hs hsh hB1 hks hll hnx
      go_wp2_with fail
      obtain ⟨g, i, hc, e0, _, _, _, _, _⟩ := HN.out wr HB.out
      have HC := Lib.hid hc
      clear hc
      refine HC.out.mono ?_
      rintro e w1 ⟨rfl, rfl⟩
      go_wp2_with fail
      refine (HCL.out _).mono ?_
      rintro e w2 ⟨rfl, hb2⟩
      have HB2 := Lib.hid (HB.out.trans (hb2.mono HB.out.size))
      have hraw2 := ownsRow_below hraw hb2
      clear hb2
      go_wp2_with (at_builtin; go_must (refine wpList_append_own _ rfl _ _ 52 rfl w.heap.size 9 i0 _ 1 16 Try.underlying52 hi hz0 hz1 hz2 rfl (by decide) _ _ _ rfl (hraw2.alloc _) ⟨w2.heap.size, 0, none⟩ 1 1 [_] rfl rfl (cell_one_new _ _ _) ?c2 ?c3 ?c4 ?c5 ?_))
      case c2 => intro u hu; simp at hu; subst hu; rfl
      case c3 => have := HLL.out; unfold maxLen; omega
      case c4 => have := HLL.out; omega
      case c5 => have := HB2.out.size; simp; omega
      intro v2 w3 hown2 hgrow2 _
      have HW : Hid (w3.ownsRow w.heap.size 9 1 v2 (rl ++ [y]).length (keyCells (rl ++ [y])) ∧ Below w.heap.size w w3) :=
        Lib.hid ⟨by rw [List.length_append]; unfold keyCells; rw [List.map_append]; exact hown2, ((HB2.out.alloc HB2.out.size _)).grown hgrow2 (by have := HB2.out.size; simp; omega) (fun q hq => (hraw2.lt q hq).1)⟩
      clear hown2 hgrow2 hraw hraw2 HB2 HO HO2 HB
      go_wp2_with fail
      refine (HL.out _ HW.out.2).mono ?_
      rintro e w4 ⟨rfl, rfl⟩
      have hlk := HLK.out _ HW.out.2
      go_wp2_with fail
      go_roundw
      case rel => exact ⟨A ++ B1 ++ [y], B2, HS.out, by rw [HNX.out], Lib.hid (by rw [HRS.out]; exact HW.out.1), Lib.hid HW.out.2⟩
      case measure => exact HLT.out

set_option maxHeartbeats 4000000 in
set_option maxRecDepth 100000 in
theorem towers_in {w : World} {L : Lay} {s r : List (It Ent)} (h : ListS w L s r)  :
    Calls Try.prog 21 #[.pointer (some ⟨L.b, 0, none⟩)] w fun e w' => ∃ v, e = .returned v ∧ w'.ownsRow w.heap.size 3 1 v (row 0 s).length (hgtCells (row 0 s)) ∧ Below w.heap.size w w' := by
  obtain ⟨i0, hi, hz0, hz1, hz2⟩ := info_parts info_int
  have hlen : s.length ≤ 100000 := by rw [h.kin.len]; exact h.few
  have HU := Lib.hid (shape_up h.kin.up)
  have HK : Hid (∀ z ∈ shape s, z.1 ∈ keys r) := Lib.hid (fun z hz => h.keys_in (A := []) rfl z hz)
  have c0 := h.first (j := 0) (by omega)
  have HH := Lib.hid h; clear h
  go_enter Try.func21, Try.ntmps21
  go_wp2_with fail
  go_loopw [3, 4] (fun v p wr => ∃ (A B : List (It Ent)), s = A ++ B ∧ p = .int .i64 (nxt (keys r) 0 (shape B) : Int) ∧ Hid (wr.ownsRow w.heap.size 3 1 v (row 0 A).length (hgtCells (row 0 A))) ∧ Hid (Below w.heap.size w wr)) (fun _ p _ => left (keys r) (shape s) (intOf p).toNat)
  case atStart => exact ⟨[], s, rfl, rfl, Lib.hid (World.ownsRow_nil ..), Lib.hid (Below.refl _ _)⟩
  case round =>
    obtain ⟨A, B, hs, rfl, HO, HB⟩ := hrel
    by_cases h0 : nxt (keys r) 0 (shape B) = 0
    · rw [h0]
      have HE : Hid (row 0 s = row 0 A) := Lib.hid (by
        rw [hs, row_append, row_none (A := B), List.append_nil]
        intro z hz
        exact nxt_zero.1 h0 (z.key, z.h) (List.mem_map.2 ⟨z, hz, rfl⟩))
      clear h0 hs
      go_wp2_with fail
      go_ret
      rw [HE.out]
      exact ⟨_, rfl, HO.out, HB.out⟩
    · obtain ⟨B1, y, B2, rfl, hn, hjy, hB1⟩ := nxtI h0
      have hy : y ∈ s := by rw [hs]; simp
      rw [hn]
      have hp := plc_pos (keys r) y.key
      have hne : ¬ ((plc (keys r) y.key : Nat) : Int) = 0 := by omega
      have hpl := HH.out.plc_le hy
      have hks := HH.out.small y hy
      have HN := Lib.hid (fun W (hb : Below w.heap.size w W) => nodeAt_any (HH.out.below hb) hy)
      have HCL := Lib.hid (fun W => clone_any (txt y.key) W (by rw [txt_size]; omega))
      have HL := Lib.hid (fun W (hb : Below w.heap.size w W) => linksAt_any (HH.out.below hb) hy)
      have hsh : shape s = shape (A ++ B1) ++ (y.key, y.h) :: shape B2 := by rw [hs]; simp [shape]
      have HLK := Lib.hid (fun W (hb : Below w.heap.size w W) => (HH.out.below hb).link hsh hjy)
      have HRS : Hid (row 0 (A ++ B1 ++ [y]) = row 0 A ++ [y]) := Lib.hid (row_snoc hB1 hjy)
      have HS : Hid (s = (A ++ B1 ++ [y]) ++ B2) := Lib.hid (by rw [hs]; simp)
      have HLT : Hid (left (keys r) (shape s) (nxt (keys r) 0 (shape B2)) < left (keys r) (shape s) (plc (keys r) y.key)) := Lib.hid (by
        have h1 := left_at (ks := keys r) hsh HU.out HK.out
        have h2 := left_nxt (ks := keys r) (A := shape (A ++ B1 ++ [y])) (B := shape B2) (by rw [HS.out]; simp [shape]) HU.out HK.out 0
        rw [h1]; omega)
      have hll : (row 0 A).length ≤ 100000 := by
        have h1 : (row 0 A).length ≤ A.length := List.length_filter_le ..
        have h2 : A.length ≤ s.length := by rw [hs]; simp
        omega
      have HLL := Lib.hid hll
      have hraw := HO.out
      have HO2 := HO
      have hj3 : (0 : Int) < y.h := by omega
      generalize hnx : nxt (keys r) 0 (shape B2) = nx at *
      have HNX := Lib.hid hnx
      have HHH := Lib.hid hjy
      generalize plc (keys r) y.key = pc at *
      generalize hrl : row 0 A = rl at *
      clear h0 hn hs hsh hB1 hks hll hnx
      go_wp2_with fail
      refine (HL.out wr HB.out).mono ?_
      rintro e w2 ⟨rfl, rfl⟩
      have hraw2 := hraw
      have HB2 := HB
      go_wp2_with (at_builtin; go_must (refine wpList_append_own _ rfl _ _ 54 rfl w.heap.size 3 i0 _ 1 8 Try.underlying54 hi hz0 hz1 hz2 rfl (by decide) _ _ _ rfl (hraw2.alloc _) ⟨w2.heap.size, 0, none⟩ 1 1 [_] rfl rfl (cell_one_new _ _ _) ?c2 ?c3 ?c4 ?c5 ?_))
      case c2 => intro u hu; simp at hu; subst hu; rfl
      case c3 => have := HLL.out; unfold maxLen; omega
      case c4 => have := HLL.out; omega
      case c5 => have := HB2.out.size; simp; omega
      intro v2 w3 hown2 hgrow2 _
      have HW : Hid (w3.ownsRow w.heap.size 3 1 v2 (rl ++ [y]).length (hgtCells (rl ++ [y])) ∧ Below w.heap.size w w3) :=
        Lib.hid ⟨by rw [List.length_append]; unfold hgtCells; rw [List.map_append]; exact hown2, ((HB2.out.alloc HB2.out.size _)).grown hgrow2 (by have := HB2.out.size; simp; omega) (fun q hq => (hraw2.lt q hq).1)⟩
      clear hown2 hgrow2 hraw hraw2 HB2 HO HO2 HB
      go_wp2_with fail
      refine (HL.out _ HW.out.2).mono ?_
      rintro e w4 ⟨rfl, rfl⟩
      have hlk := HLK.out _ HW.out.2
      go_wp2_with fail
      go_roundw
      case rel => exact ⟨A ++ B1 ++ [y], B2, HS.out, by rw [HNX.out], Lib.hid (by rw [HRS.out]; exact HW.out.1), Lib.hid HW.out.2⟩
      case measure => exact HLT.out

theorem rows_any {w : World} {L : Lay} {s r : List (It Ent)} (h : ListS w L s r) (lev : Int) :
    Calls Try.prog 20 #[.pointer (some ⟨L.b, 0, none⟩), .int .i64 lev] w fun e w' => ∃ v, e = .returned v ∧ w'.ownsRow w.heap.size 9 1 v (rowL lev s).length (keyCells (rowL lev s)) ∧ Below w.heap.size w w' := by
  unfold rowL
  by_cases hl : lev < 0
  · rw [if_pos (Or.inl hl)]
    clear h
    go_enter Try.func20, Try.ntmps20
    go_wp2_with fail
    go_ret
    exact ⟨_, rfl, World.ownsRow_nil .., Below.refl _ _⟩
  · by_cases hl2 : 12 ≤ lev
    · rw [if_pos (Or.inr hl2)]
      clear h
      go_enter Try.func20, Try.ntmps20
      go_wp2_with fail
      go_ret
      exact ⟨_, rfl, World.ownsRow_nil .., Below.refl _ _⟩
    · rw [if_neg (by omega)]
      have e : lev = (lev.toNat : Int) := by omega
      have := row_in h lev.toNat (by omega)
      rw [← e] at this
      exact this
theorem towers_any {w : World} {L : Lay} {s r : List (It Ent)} (h : ListS w L s r) :
    Calls Try.prog 21 #[.pointer (some ⟨L.b, 0, none⟩)] w fun e w' => ∃ v, e = .returned v ∧ w'.ownsRow w.heap.size 3 1 v s.length (hgtCells s) ∧ Below w.heap.size w w' := by
  have := towers_in h
  rw [row_zero fun y hy => (h.hgt y hy).1] at this
  exact this

end Go.Proofs.Ytmdnmabbphnhaaa.Sm
