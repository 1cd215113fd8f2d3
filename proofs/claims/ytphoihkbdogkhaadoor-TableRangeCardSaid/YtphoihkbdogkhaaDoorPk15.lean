/- Texts on the program's own functions, several in one: TbQ, TbBz, TbBn, TbB, TbC, TbD, TbE, TbF, TbG, TbH, TbR, TbU, TbW, TbX, TbGet, TbRange, TbS, TbT, TbV. -/
import Derived.Test.YtphoihkbdogkhaaDoorPk14
import Derived.Test.YtphoihkbdogkhaaDoorPk12
import Derived.Deep.RegionLaw
import Derived.Deep.AppendLies
import Derived.Deep.QuietTactic
import Derived.BigQuiet
import Derived.Deep.DeepCutAuto
import Derived.Deep.CutRange
import Derived.Deep.MidRow
import Derived.Deep.RegionHeld3

/- A table as it lies in memory; the walks of its entries, seek. -/
namespace Go.Proofs.YtphoihkbdogkhaaDoor.Bn.Tw
open Go Go.RowKit Go.Proofs.YtphoihkbdogkhaaDoor.Tb
open Go.Proofs.YtphoihkbdogkhaaDoor.Bn.Bo (Blk heap_lt cell_of)
set_option linter.unusedVariables false
set_option maxRecDepth 100000

/-- A block that lies somewhere, with its entries. -/
structure BL1 where
  p : Nat
  v : Value
  rs : List Bo.Row
abbrev BL1.es (x : BL1) : List En := x.rs.map Prod.snd
abbrev ptrs (l : List BL1) : List Value := l.map fun x => .pointer (some ⟨x.p, 0, none⟩)
/-- Blocks that lie in memory, in a row of the call's own. -/
structure Blks (w : World) (base : Nat) (v : Value) (l : List BL1) : Prop where
  own : w.ownsRow base 76 1 v l.length (ptrs l)
  blk : ∀ x ∈ l, Blk w base x.p x.v x.rs
  low : ∀ x ∈ l, base ≤ x.p
theorem Blks.nil (w : World) (base : Nat) : Blks w base (.slice none 0 0) [] := ⟨World.ownsRow_nil .., fun x hx => (by cases hx), fun x hx => (by cases hx)⟩
theorem Blks.below {w w' : World} {base : Nat} {v : Value} {l : List BL1} (h : Blks w base v l) (hb : Below w.heap.size w w') : Blks w' base v l :=
  ⟨Bo.ownsRow_below h.own hb, fun x hx => (h.blk x hx).below hb, h.low⟩
theorem Blks.shape {w : World} {base : Nat} {v : Value} {l : List BL1} (h : Blks w base v l) : ∃ a c, v = .slice a l.length c := Bo.row_any h.own
theorem Blks.at {w : World} {base : Nat} {a : Option Addr} {n c : Nat} {l : List BL1} (h : Blks w base (.slice a n c) l) {i : Nat} {x : BL1} (hi : l[i]? = some x) :
    ∃ g, a = some ⟨g, 0, none⟩ ∧ g < w.heap.size ∧ w.cell? ⟨g, i, none⟩ = some (.pointer (some ⟨x.p, 0, none⟩)) := by
  have hlt := (List.getElem?_eq_some_iff.1 hi).1
  obtain ⟨g, cap, e, h1, h2, h3, h4, h5⟩ := Bo.row_shape h.own (by omega)
  simp only [Value.slice.injEq] at e
  exact ⟨g, e.1, h2, h5 i _ (by simp [ptrs, hi])⟩
/-- A table that lies there. -/
structure Tab1 (w : World) (base p : Nat) (f : ByteArray) (ix : BL1) (bv : Value) (l : List BL1) : Prop where
  box : w.heap[p]? = some (.cells #[.string f, .pointer (some ⟨ix.p, 0, none⟩), bv] 79 (0, 0))
  idx : Blk w base ix.p ix.v ix.rs
  blks : Blks w base bv l
theorem Tab1.below {w w' : World} {base p : Nat} {f : ByteArray} {ix : BL1} {bv : Value} {l : List BL1} (h : Tab1 w base p f ix bv l) (hb : Below w.heap.size w w') : Tab1 w' base p f ix bv l :=
  ⟨(hb.block _ (heap_lt h.box)).trans h.box, h.idx.below hb, h.blks.below hb⟩
/-- What it is, plainly. -/
abbrev tOf (f : ByteArray) (ix : BL1) (l : List BL1) : T := ⟨f.data.toList, ix.es, l.map BL1.es⟩
/-- Bounds of what a table holds. -/
structure Small (l : List BL1) : Prop where
  n : l.length ≤ 1000000
  r : ∀ x ∈ l, x.rs.length ≤ 1000000
  z : ∀ x ∈ l, ∀ y ∈ x.rs, y.2.val.size ≤ 1000000 ∧ y.2.key.size ≤ 1000000

/-! ### Entries that a call collects -/

abbrev entCells (e : Ent) : List Value := [.string e.key, .string e.val, .int .u64 (e.seq : Int), .bool e.gone]
abbrev rowCells (l : List Ent) : List Value := l.flatMap entCells
theorem rowCells_snoc (l : List Ent) (e : Ent) : rowCells (l ++ [e]) = rowCells l ++ entCells e := by simp [rowCells]
def OwnsE (w : World) (base : Nat) (v : Value) (l : List Ent) : Prop := w.ownsRow base 33 4 v l.length (rowCells l)
theorem info_ent : (Tryd.prog.info? 33).map (fun i => (i.zero, i.size, i.bytes)) = some (some (.agg #[.string ⟨#[]⟩, .string ⟨#[]⟩, .int .u64 0, .bool false]), 4, 48) := by kernel_rfl
theorem OwnsE.nil (w : World) (base : Nat) : OwnsE w base (.slice none 0 0) [] := World.ownsRow_nil ..
theorem OwnsE.below {w w' : World} {base : Nat} {v : Value} {l : List Ent} (h : OwnsE w base v l) (hb : Below w.heap.size w w') : OwnsE w' base v l := Bo.ownsRow_below h hb
theorem OwnsE.snoc {w : World} {base : Nat} {v : Value} {l : List Ent} {e : Ent} (h : w.ownsRow base 33 4 v (l.length + 1) (rowCells l ++ entCells e)) : OwnsE w base v (l ++ [e]) := by
  unfold OwnsE
  rw [List.length_append, rowCells_snoc]
  exact h

/-! ### seek -/

/-- The block, and the place in it. -/
def seekT (t : T) (k : ByteArray) : Nat × Nat := (Bo.seekN t.idx k, match t.blks[Bo.seekN t.idx k]? with
  | none => 0
  | some b => Bo.seekN b k)
set_option maxHeartbeats 1000000 in
theorem seek_any {w : World} {base p : Nat} {f : ByteArray} {ix : BL1} {bv : Value} {l : List BL1} (h : Tab1 w base p f ix bv l) (hs : Small l) (hix : ix.rs.length ≤ 1000000) (ha : Bo.Asc ix.es) (hb : ∀ x ∈ l, Bo.Asc x.es) (k : ByteArray) :
    Calls Tryd.prog 33 #[.pointer (some ⟨p, 0, none⟩), .string k] w (Gives (.tuple #[.int .i64 ((seekT (tOf f ix l) k).1 : Int), .int .i64 ((seekT (tOf f ix l) k).2 : Int)]) w) := by
  have HSI := Lib.hid (Bo.seek_any h.idx k hix ha)
  have c1 : w.cell? ⟨p, 1, none⟩ = some (.pointer (some ⟨ix.p, 0, none⟩)) := by rw [cell_of h.box]; rfl
  obtain ⟨a, c, rfl⟩ := h.blks.shape
  have HH := Lib.hid h; have HS := Lib.hid hs; have HB := Lib.hid hb
  have HLT := Lib.hid (heap_lt h.box)
  have hn : Bo.seekN ix.es k ≤ ix.rs.length := by have := Bo.seekN_le ix.es k; rwa [List.length_map] at this
  obtain ⟨i, hi⟩ : ∃ i, i = Bo.seekN ix.es k := ⟨_, rfl⟩
  obtain ⟨J, hJ⟩ : ∃ J, J = (seekT (tOf f ix l) k).2 := ⟨_, rfl⟩
  have HJ0 : Hid (J = match (l.map BL1.es)[i]? with | none => 0 | some b => Bo.seekN b k) := Lib.hid (by rw [hJ]; unfold seekT; rw [hi])
  have HV : Hid (seekT (tOf f ix l) k = (i, J)) := Lib.hid (by rw [hJ, hi]; rfl)
  rw [HV.out]
  rw [show Bo.seekN (ix.rs.map Prod.snd) k = i from hi.symm] at HSI
  have hi9 : (i : Int) ≤ 1000000 := by omega
  dsimp only
  clear h hs hb hn hi ha hix HV hJ
  go_enter Tryd.func33, Tryd.ntmps33
  go_wp2_with fail
  refine HSI.out.mono ?_
  rintro e w1 ⟨rfl, hb1⟩
  have c2 : w1.cell? ⟨p, 2, none⟩ = some (.slice a l.length c) := by rw [cell_of (HH.out.below hb1).box]; rfl
  by_cases hil : i < l.length
  · have hil' : (i : Int) < l.length := by omega
    obtain ⟨x, hx⟩ : ∃ x, l[i]? = some x := ⟨_, List.getElem?_eq_getElem hil⟩
    obtain ⟨g, rfl, hg, cg⟩ := (HH.out.below hb1).blks.at hx
    have HJ : Hid (J = Bo.seekN x.es k) := Lib.hid (by rw [HJ0.out, List.getElem?_map, hx]; rfl)
    have hm := List.mem_of_getElem? hx
    have HSB := Lib.hid (Bo.seek_any ((HH.out.below hb1).blks.blk x hm) k (HS.out.r x hm) (HB.out x hm))
    clear hx hm
    generalize l.length = ln at *
    go_wp2_with fail
    refine HSB.out.mono ?_
    rintro e w2 ⟨rfl, hb2⟩
    go_wp2_with fail
    go_ret2
    exact ⟨by rw [HJ.out]; rfl, Below.next hb1 hb2⟩
  · have hil' : ¬ (i : Int) < l.length := by omega
    have HJ : Hid (J = 0) := Lib.hid (by rw [HJ0.out, List.getElem?_eq_none (by rw [List.length_map]; omega)])
    generalize l.length = ln at *
    go_wp2_with fail
    go_ret2
    exact ⟨by rw [HJ.out]; rfl, hb1⟩
end Go.Proofs.YtphoihkbdogkhaaDoor.Bn.Tw

/- The walk of table's note. -/
namespace Go.Proofs.YtphoihkbdogkhaaDoor.Bn.Tw
open Go Go.RowKit Go.Proofs.YtphoihkbdogkhaaDoor.Tb
open Go.Proofs.YtphoihkbdogkhaaDoor.Bn.Bo (Turns Seat BL Built GoesB OwnB ownsRow_frame ownsRow_lt ownsRow_obj heap_lt cell_of unfrozen_of obj_cells_ne setCell_kept)
set_option linter.unusedVariables false
set_option maxRecDepth 100000

theorem undrewN {w w2 : World} {n : Nat} (h : Below (w.drewN n).heap.size (w.drewN n) w2) : Below w.heap.size w w2 := ⟨h.os, h.tape, h.output, h.size, h.block⟩
set_option maxHeartbeats 2000000 in
theorem note_z0 {w : World} {base : Nat} {L : TL} {s : TS} (h : BuiltT w base L s) (e : Ent) (hq : e.seq < 18446744073709551616) (hcn : s.cnt ≤ 1000000000) (hkl : s.keys.length ≤ 1000000000) (hks : e.key.size ≤ 1000000) (h0 : s.cnt = 0) (hk0 : s.keys = []) :
    Calls Tryd.prog 30 #[.pointer (some ⟨L.b, 0, none⟩), enV e] w fun x w' => x = .returned (.tuple #[]) ∧ GoesT base L w { s with cnt := s.cnt + 1, least := e.seq, most := max s.most e.seq, keys := s.keys ++ [e.key] } w' := by
  obtain ⟨K, V, q, g⟩ := e
  dsimp only at hq hks  ⊢
  have H1 := Lib.hid (Stays.mk (h.alloc (entX ⟨K, V, q, g⟩)) (Turns.of_below (P := OwnT L) (box_below w (entX ⟨K, V, q, g⟩))))
  have HX := Lib.hid (heap_alloc_new w (entX ⟨K, V, q, g⟩))
  obtain ⟨ka, kc, ekv⟩ : ∃ a c, L.kv = .slice a s.keys.length c := Bo.row_any h.keys
  have c2 : (w.alloc (entX ⟨K, V, q, g⟩)).cell? ⟨L.b, 2, none⟩ = some (.int .i64 (s.cnt : Int)) := H1.out.h.cell 2
  have c6 : (w.alloc (entX ⟨K, V, q, g⟩)).cell? ⟨L.b, 6, none⟩ = some (.int .u64 (s.least : Int)) := H1.out.h.cell 6
  have f2 := H1.out.h.soft 2
  have f6 := H1.out.h.soft 6
  have hne : w.heap.size ≠ L.b := by have := heap_lt h.box; omega
  have HNE := Lib.hid hne
  have hc1 : (s.cnt : Int) ≤ 1000000000 := by omega
  have HKV := Lib.hid ekv; have HKL := Lib.hid hkl; have HKS := Lib.hid hks
  have HCL := Lib.hid (fun W => clone_any K W (by omega))
  obtain ⟨M, hM, hM2⟩ : ∃ M : Nat, max (s.most : Int) (q : Int) = (M : Int) ∧ max s.most q = M := ⟨max s.most q, by omega, rfl⟩
  rw [hM2]
  clear hM2
  clear h ekv hcn hkl hks
  have e0 : ((s.cnt : Int) == 0) = true := by rw [h0]; rfl
  clear h0
  have hmin : min (q : Int) (q : Int) = q := by omega
  dsimp only [enV]
  go_enter Tryd.func30, Tryd.ntmps30
  go_wp2_with fail
  obtain ⟨W2, hW2⟩ : ∃ W2, W2 = ((w.alloc (entX ⟨K, V, q, g⟩)).setCell ⟨L.b, 6, none⟩ (.int .u64 (q : Int))).setCell ⟨L.b, 2, none⟩ (.int .i64 ((s.cnt : Int) + 1)) := ⟨_, rfl⟩
  rw [← hW2]
  have hg2 : Stays base L w { s with least := q, cnt := s.cnt + 1 } W2 := by
    rw [hW2]
    exact (H1.out.put (s' := { s with least := q }) 6 _ rfl rfl ⟨rfl, rfl⟩ ⟨rfl, rfl⟩ rfl).put 2 _ rfl rfl ⟨rfl, rfl⟩ ⟨rfl, rfl⟩ rfl
  have hx2 : W2.heap[w.heap.size]? = some (entX ⟨K, V, q, g⟩) := by
    rw [hW2, setCell_kept _ _ _ hne, setCell_kept _ _ _ hne]
    exact HX.out
  have x2 : W2.cell? ⟨w.heap.size, 2, none⟩ = some (.int .u64 (q : Int)) := by rw [cell_of hx2]; rfl
  have d6 : W2.cell? ⟨L.b, 6, none⟩ = some (.int .u64 (q : Int)) := hg2.h.cell 6
  have d7 : W2.cell? ⟨L.b, 7, none⟩ = some (.int .u64 (s.most : Int)) := hg2.h.cell 7
  have g6 := hg2.h.soft 6
  have HG2 := Lib.hid hg2; have HX2 := Lib.hid hx2
  clear hg2 hx2 hW2 c2 c6 f2 f6 hne H1 HX
  go_region
  obtain ⟨W3, hW3⟩ : ∃ W3, W3 = (W2.setCell ⟨L.b, 6, none⟩ (.int .u64 (q : Int))).drew := ⟨_, rfl⟩
  rw [← hW3]
  have hg3 : Stays base L w { s with least := q, cnt := s.cnt + 1 } W3 := by
    rw [hW3]
    exact (HG2.out.put (s' := { s with least := q, cnt := s.cnt + 1 }) 6 _ rfl rfl ⟨rfl, rfl⟩ ⟨rfl, rfl⟩ rfl).drew
  have hx3 : W3.heap[w.heap.size]? = some (entX ⟨K, V, q, g⟩) := by
    rw [hW3]
    exact (setCell_kept _ _ _ HNE.out).trans HX2.out
  have x3 : W3.cell? ⟨w.heap.size, 2, none⟩ = some (.int .u64 (q : Int)) := by rw [cell_of hx3]; rfl
  have e7 : W3.cell? ⟨L.b, 7, none⟩ = some (.int .u64 (s.most : Int)) := hg3.h.cell 7
  have g7 := hg3.h.soft 7
  have HG3 := Lib.hid hg3; have HX3 := Lib.hid hx3
  clear hg3 hx3 hW3 d6 d7 g6 x2 HG2 HX2
  go_wp2_with fail
  go_region
  obtain ⟨W4, hW4⟩ : ∃ W4, W4 = (W3.setCell ⟨L.b, 7, none⟩ (.int .u64 (M : Int))).drew := ⟨_, rfl⟩
  rw [← hW4]
  have hg4 : Stays base L w { s with least := q, cnt := s.cnt + 1, most := M } W4 := by
    rw [hW4]
    exact (HG3.out.put (s' := { s with least := q, cnt := s.cnt + 1, most := M }) 7 _ rfl rfl ⟨rfl, rfl⟩ ⟨rfl, rfl⟩ rfl).drew
  have hx4 : W4.heap[w.heap.size]? = some (entX ⟨K, V, q, g⟩) := by
    rw [hW4]
    exact (setCell_kept _ _ _ HNE.out).trans HX3.out
  have x0 : W4.cell? ⟨w.heap.size, 0, none⟩ = some (.string K) := by rw [cell_of hx4]; rfl
  have c8 : W4.cell? ⟨L.b, 8, none⟩ = some (.slice ka s.keys.length kc) := by rw [hg4.h.cell 8, ← HKV.out]; rfl
  have g8 := hg4.h.soft 8
  have HG4 := Lib.hid hg4; have HX4 := Lib.hid hx4
  clear hg4 hx4 hW4 e7 g7 x3 hM hmin HG3 HX3
  have HK0 := Lib.hid hk0
  have hkz : s.keys.length = 0 := by rw [hk0]; rfl
  rw [hkz] at c8
  clear hk0 hkz
  go_wp2_with fail
  go_quiet (fail)
  obtain ⟨i0, hi, hz0, hz1, hz2⟩ := info_parts info_string
  have hbl := HG4.out.goes.lt
  have hown : W4.ownsRow base 9 1 L.kv 0 (s.keys.map .string) := by
    have := HG4.out.h.keys
    unfold OwnsS at this
    rw [show ({ s with least := q, cnt := s.cnt + 1, most := M } : TS).keys = s.keys from rfl, show s.keys.length = 0 from by rw [HK0.out]; rfl] at this
    exact this
  have hkv : L.kv = .slice ka 0 kc := by rw [HKV.out]; rw [HK0.out]; rfl
  rw [hkv] at hown
  have HKV2 := Lib.hid hkv; clear hkv
  have HOWN := Lib.hid hown; clear hown
  have hn1 : L.kv.ownBlock ≠ some L.b := HG4.out.h.box_ne.1
  have HBL := Lib.hid hbl; have HN1 := Lib.hid hn1; have HLOW := Lib.hid (Nat.le_of_lt (Nat.lt_of_le_of_lt HG4.out.h.low hbl))
  clear hbl hn1
  go_wp2_with fail
  go_region_law (first
    | (go_simp; go_at_call 26; refine (HCL.out _).mono ?_; rintro e w2 ⟨rfl, hb2'⟩
       have hb2 := undrewN hb2'
       have k8 : w2.cell? ⟨L.b, 8, none⟩ = some (.slice ka 0 kc) := (hb2.cell (p := ⟨L.b, 8, none⟩) HBL.out).trans c8
       have k8a : (w2.alloc (.cells #[.string K] 9)).cell? ⟨L.b, 8, none⟩ = some (.slice ka 0 kc) := ((box_below w2 _).cell (p := ⟨L.b, 8, none⟩) (Nat.lt_of_lt_of_le HBL.out hb2.size)).trans k8
       have kf8 : w2.frozen? ⟨L.b, 8, none⟩ = false := (hb2.frozen (p := ⟨L.b, 8, none⟩) HBL.out).trans g8)
    | (refine step_append_lies _ (by rfl) _ _ _ (by rfl) base 9 i0 _ 1 16 Tryd.underlying62 hi hz0 hz1 hz2 rfl (by omega) (.slice ka 0 kc) 0 (s.keys.map .string) (by rfl) ((ownsRow_below HOWN.out hb2).alloc _) ⟨w2.heap.size, 0, none⟩ 1 1 [.string K] (by rfl) (by rfl) (World.news_of_block (cs := #[.string K]) (t := 9) (fr := (0, 0)) (heap_alloc_new w2 _)) (by intro u hu; rw [List.mem_singleton.1 hu]; rfl) (by omega) (by have := HKL.out; unfold maxLen; omega) (by have := HKL.out; omega) (by have := HLOW.out; have := hb2.size; rw [World.size_alloc]; show base ≤ _; have h9 : W4.heap.size ≤ w2.heap.size := hb2.size; omega) _ rfl ?_
       intro gg cap w3 hown3 hgrow hat hlt3
       have k83 : w3.cell? ⟨L.b, 8, none⟩ = some (.slice ka 0 kc) := (hgrow.cell_far ⟨L.b, 8, none⟩ (by rw [World.size_alloc]; have := HBL.out; have h9 : W4.heap.size ≤ w2.heap.size := hb2.size; show L.b < _; omega) (by rw [← HKV2.out]; exact Ne.symm HN1.out)).trans ((box_below w2 _).cell (p := ⟨L.b, 8, none⟩) (Nat.lt_of_lt_of_le HBL.out hb2.size) |>.trans k8)
       have kf83 : w3.frozen? ⟨L.b, 8, none⟩ = false := (hgrow.frozen_far ⟨L.b, 8, none⟩ (by rw [World.size_alloc]; have := HBL.out; have h9 : W4.heap.size ≤ w2.heap.size := hb2.size; show L.b < _; omega) (by rw [← HKV2.out]; exact Ne.symm HN1.out)).trans ((box_below w2 _).frozen (p := ⟨L.b, 8, none⟩) (Nat.lt_of_lt_of_le HBL.out hb2.size) |>.trans kf8)))
  all_goals
    have HH : Hid (GoesT base L w { s with least := q, cnt := s.cnt + 1, most := M, keys := s.keys ++ [K] } (w3.setCell ⟨L.b, 8, none⟩ (.slice (some ⟨gg, 0, none⟩) (0 + 1) cap))) := Lib.hid (by
      have hs5 := HG4.out.below (hb2.trans ((box_below w2 (.cells #[.string K] 9)).mono hb2.size))
      have hown5 : OwnsS w3 base (.slice (some ⟨gg, 0, none⟩) (0 + 1) cap) (s.keys ++ [K]) := by
        unfold OwnsS
        rw [List.length_append, List.map_append, show s.keys.length = 0 from by rw [HK0.out]; rfl]
        exact hown3
      rw [← HKV2.out] at hgrow hat
      exact hs5.then (hs5.h.grow_keys hown5 hgrow (fun k hk => by
        simp only [Value.ownBlock, Option.some.injEq] at hk
        subst hk
        rcases hat with e | e
        · exact Or.inl e
        · exact Or.inr (by rw [e]; exact Nat.le_refl _))))
    clear hgrow hat hown3 k83 kf83
    go_wp2_with fail
    go_end0
    exact ⟨rfl, HH.out⟩


set_option maxHeartbeats 2000000 in
theorem note_z1 {w : World} {base : Nat} {L : TL} {s : TS} (h : BuiltT w base L s) (e : Ent) (hq : e.seq < 18446744073709551616) (hcn : s.cnt ≤ 1000000000) (hkl : s.keys.length ≤ 1000000000) (hks : e.key.size ≤ 1000000) (h0 : s.cnt = 0) (hk0 : s.keys.getLast? = some e.key) :
    Calls Tryd.prog 30 #[.pointer (some ⟨L.b, 0, none⟩), enV e] w fun x w' => x = .returned (.tuple #[]) ∧ GoesT base L w { s with cnt := s.cnt + 1, least := e.seq, most := max s.most e.seq, keys := s.keys } w' := by
  obtain ⟨K, V, q, g⟩ := e
  dsimp only at hq hks hk0 ⊢
  have H1 := Lib.hid (Stays.mk (h.alloc (entX ⟨K, V, q, g⟩)) (Turns.of_below (P := OwnT L) (box_below w (entX ⟨K, V, q, g⟩))))
  have HX := Lib.hid (heap_alloc_new w (entX ⟨K, V, q, g⟩))
  obtain ⟨ka, kc, ekv⟩ : ∃ a c, L.kv = .slice a s.keys.length c := Bo.row_any h.keys
  have c2 : (w.alloc (entX ⟨K, V, q, g⟩)).cell? ⟨L.b, 2, none⟩ = some (.int .i64 (s.cnt : Int)) := H1.out.h.cell 2
  have c6 : (w.alloc (entX ⟨K, V, q, g⟩)).cell? ⟨L.b, 6, none⟩ = some (.int .u64 (s.least : Int)) := H1.out.h.cell 6
  have f2 := H1.out.h.soft 2
  have f6 := H1.out.h.soft 6
  have hne : w.heap.size ≠ L.b := by have := heap_lt h.box; omega
  have HNE := Lib.hid hne
  have hc1 : (s.cnt : Int) ≤ 1000000000 := by omega
  have HKV := Lib.hid ekv; have HKL := Lib.hid hkl; have HKS := Lib.hid hks
  have HCL := Lib.hid (fun W => clone_any K W (by omega))
  obtain ⟨M, hM, hM2⟩ : ∃ M : Nat, max (s.most : Int) (q : Int) = (M : Int) ∧ max s.most q = M := ⟨max s.most q, by omega, rfl⟩
  rw [hM2]
  clear hM2
  clear h ekv hcn hkl hks
  have e0 : ((s.cnt : Int) == 0) = true := by rw [h0]; rfl
  clear h0
  have hmin : min (q : Int) (q : Int) = q := by omega
  dsimp only [enV]
  go_enter Tryd.func30, Tryd.ntmps30
  go_wp2_with fail
  obtain ⟨W2, hW2⟩ : ∃ W2, W2 = ((w.alloc (entX ⟨K, V, q, g⟩)).setCell ⟨L.b, 6, none⟩ (.int .u64 (q : Int))).setCell ⟨L.b, 2, none⟩ (.int .i64 ((s.cnt : Int) + 1)) := ⟨_, rfl⟩
  rw [← hW2]
  have hg2 : Stays base L w { s with least := q, cnt := s.cnt + 1 } W2 := by
    rw [hW2]
    exact (H1.out.put (s' := { s with least := q }) 6 _ rfl rfl ⟨rfl, rfl⟩ ⟨rfl, rfl⟩ rfl).put 2 _ rfl rfl ⟨rfl, rfl⟩ ⟨rfl, rfl⟩ rfl
  have hx2 : W2.heap[w.heap.size]? = some (entX ⟨K, V, q, g⟩) := by
    rw [hW2, setCell_kept _ _ _ hne, setCell_kept _ _ _ hne]
    exact HX.out
  have x2 : W2.cell? ⟨w.heap.size, 2, none⟩ = some (.int .u64 (q : Int)) := by rw [cell_of hx2]; rfl
  have d6 : W2.cell? ⟨L.b, 6, none⟩ = some (.int .u64 (q : Int)) := hg2.h.cell 6
  have d7 : W2.cell? ⟨L.b, 7, none⟩ = some (.int .u64 (s.most : Int)) := hg2.h.cell 7
  have g6 := hg2.h.soft 6
  have HG2 := Lib.hid hg2; have HX2 := Lib.hid hx2
  clear hg2 hx2 hW2 c2 c6 f2 f6 hne H1 HX
  go_region
  obtain ⟨W3, hW3⟩ : ∃ W3, W3 = (W2.setCell ⟨L.b, 6, none⟩ (.int .u64 (q : Int))).drew := ⟨_, rfl⟩
  rw [← hW3]
  have hg3 : Stays base L w { s with least := q, cnt := s.cnt + 1 } W3 := by
    rw [hW3]
    exact (HG2.out.put (s' := { s with least := q, cnt := s.cnt + 1 }) 6 _ rfl rfl ⟨rfl, rfl⟩ ⟨rfl, rfl⟩ rfl).drew
  have hx3 : W3.heap[w.heap.size]? = some (entX ⟨K, V, q, g⟩) := by
    rw [hW3]
    exact (setCell_kept _ _ _ HNE.out).trans HX2.out
  have x3 : W3.cell? ⟨w.heap.size, 2, none⟩ = some (.int .u64 (q : Int)) := by rw [cell_of hx3]; rfl
  have e7 : W3.cell? ⟨L.b, 7, none⟩ = some (.int .u64 (s.most : Int)) := hg3.h.cell 7
  have g7 := hg3.h.soft 7
  have HG3 := Lib.hid hg3; have HX3 := Lib.hid hx3
  clear hg3 hx3 hW3 d6 d7 g6 x2 HG2 HX2
  go_wp2_with fail
  go_region
  obtain ⟨W4, hW4⟩ : ∃ W4, W4 = (W3.setCell ⟨L.b, 7, none⟩ (.int .u64 (M : Int))).drew := ⟨_, rfl⟩
  rw [← hW4]
  have hg4 : Stays base L w { s with least := q, cnt := s.cnt + 1, most := M } W4 := by
    rw [hW4]
    exact (HG3.out.put (s' := { s with least := q, cnt := s.cnt + 1, most := M }) 7 _ rfl rfl ⟨rfl, rfl⟩ ⟨rfl, rfl⟩ rfl).drew
  have hx4 : W4.heap[w.heap.size]? = some (entX ⟨K, V, q, g⟩) := by
    rw [hW4]
    exact (setCell_kept _ _ _ HNE.out).trans HX3.out
  have x0 : W4.cell? ⟨w.heap.size, 0, none⟩ = some (.string K) := by rw [cell_of hx4]; rfl
  have c8 : W4.cell? ⟨L.b, 8, none⟩ = some (.slice ka s.keys.length kc) := by rw [hg4.h.cell 8, ← HKV.out]; rfl
  have g8 := hg4.h.soft 8
  have HG4 := Lib.hid hg4; have HX4 := Lib.hid hx4
  clear hg4 hx4 hW4 e7 g7 x3 hM hmin HG3 HX3
  obtain ⟨m, hm⟩ : ∃ m, s.keys.length = m + 1 := ⟨s.keys.length - 1, by
    have : s.keys ≠ [] := by rintro e; rw [e] at hk0; cases hk0
    have := List.length_pos_iff.2 this
    omega⟩
  have hsee := HG4.out.h.keys.sees
  rw [HKV.out] at hsee
  obtain ⟨-, kb, ko, hcell⟩ := hsee.get
  obtain ⟨hka, -, hcy⟩ := hcell m (by omega)
  have hm9 : (m : Int) ≤ 1000000000 := by have := HKL.out; omega
  rw [hm] at c8
  subst hka
  obtain ⟨Y, hY⟩ : ∃ Y, Y = s.keys.getD m ByteArray.empty := ⟨_, rfl⟩
  rw [show (({ s with least := q, cnt := s.cnt + 1, most := M } : TS).keys.getD m ByteArray.empty) = Y from hY.symm] at hcy
  have hlast : s.keys.getLast? = some Y := by
    rw [List.getLast?_eq_getElem?, hm, hY]
    rw [List.getD_eq_getElem?_getD, List.getElem?_eq_getElem (by omega : m + 1 - 1 < s.keys.length)]
    simp [List.getElem?_eq_getElem (by omega : m < s.keys.length)]
  have hw1 : IntKind.i64.wrap ((m : Int) + 1 - 1) = m := by rw [IntKind.wrap_i64]; omega
  have hm1 : (m : Int) + 1 - 1 = m := by omega
  have hwm : IntKind.i64.wrap (m : Int) = m := by rw [IntKind.wrap_i64]; omega
  have hz1 : ((m : Int) + 1 == 0) = false := by simp; omega
  have hz2 : (m : Int) < ((m + 1 : Nat) : Int) := by omega
  have hz3 : (m : Int) < (m : Int) + 1 := by omega
  have hz4 : (0 : Int) ≤ m := by omega
  have hz5 : m < m + 1 := by omega
  obtain rfl : Y = K := by rw [hlast] at hk0; exact Option.some.inj hk0
  have heq : (Y.toList == Y.toList) = true := by simp
  clear hk0
  clear hsee hcell hY hlast 
  go_wp2_with fail
  go_quiet (fail)
  go_wp2_with fail
  go_end0
  exact ⟨rfl, HG4.out.goes.below ⟨rfl, rfl, rfl, Nat.le_refl _, fun _ _ => rfl⟩⟩

set_option maxHeartbeats 2000000 in
theorem note_z2 {w : World} {base : Nat} {L : TL} {s : TS} (h : BuiltT w base L s) (e : Ent) (hq : e.seq < 18446744073709551616) (hcn : s.cnt ≤ 1000000000) (hkl : s.keys.length ≤ 1000000000) (hks : e.key.size ≤ 1000000) (h0 : s.cnt = 0) (hk0 : s.keys ≠ []) (hk1 : s.keys.getLast? ≠ some e.key) :
    Calls Tryd.prog 30 #[.pointer (some ⟨L.b, 0, none⟩), enV e] w fun x w' => x = .returned (.tuple #[]) ∧ GoesT base L w { s with cnt := s.cnt + 1, least := e.seq, most := max s.most e.seq, keys := s.keys ++ [e.key] } w' := by
  obtain ⟨K, V, q, g⟩ := e
  dsimp only at hq hks hk0 hk1 ⊢
  have H1 := Lib.hid (Stays.mk (h.alloc (entX ⟨K, V, q, g⟩)) (Turns.of_below (P := OwnT L) (box_below w (entX ⟨K, V, q, g⟩))))
  have HX := Lib.hid (heap_alloc_new w (entX ⟨K, V, q, g⟩))
  obtain ⟨ka, kc, ekv⟩ : ∃ a c, L.kv = .slice a s.keys.length c := Bo.row_any h.keys
  have c2 : (w.alloc (entX ⟨K, V, q, g⟩)).cell? ⟨L.b, 2, none⟩ = some (.int .i64 (s.cnt : Int)) := H1.out.h.cell 2
  have c6 : (w.alloc (entX ⟨K, V, q, g⟩)).cell? ⟨L.b, 6, none⟩ = some (.int .u64 (s.least : Int)) := H1.out.h.cell 6
  have f2 := H1.out.h.soft 2
  have f6 := H1.out.h.soft 6
  have hne : w.heap.size ≠ L.b := by have := heap_lt h.box; omega
  have HNE := Lib.hid hne
  have hc1 : (s.cnt : Int) ≤ 1000000000 := by omega
  have HKV := Lib.hid ekv; have HKL := Lib.hid hkl; have HKS := Lib.hid hks
  have HCL := Lib.hid (fun W => clone_any K W (by omega))
  obtain ⟨M, hM, hM2⟩ : ∃ M : Nat, max (s.most : Int) (q : Int) = (M : Int) ∧ max s.most q = M := ⟨max s.most q, by omega, rfl⟩
  rw [hM2]
  clear hM2
  clear h ekv hcn hkl hks
  have e0 : ((s.cnt : Int) == 0) = true := by rw [h0]; rfl
  clear h0
  have hmin : min (q : Int) (q : Int) = q := by omega
  dsimp only [enV]
  go_enter Tryd.func30, Tryd.ntmps30
  go_wp2_with fail
  obtain ⟨W2, hW2⟩ : ∃ W2, W2 = ((w.alloc (entX ⟨K, V, q, g⟩)).setCell ⟨L.b, 6, none⟩ (.int .u64 (q : Int))).setCell ⟨L.b, 2, none⟩ (.int .i64 ((s.cnt : Int) + 1)) := ⟨_, rfl⟩
  rw [← hW2]
  have hg2 : Stays base L w { s with least := q, cnt := s.cnt + 1 } W2 := by
    rw [hW2]
    exact (H1.out.put (s' := { s with least := q }) 6 _ rfl rfl ⟨rfl, rfl⟩ ⟨rfl, rfl⟩ rfl).put 2 _ rfl rfl ⟨rfl, rfl⟩ ⟨rfl, rfl⟩ rfl
  have hx2 : W2.heap[w.heap.size]? = some (entX ⟨K, V, q, g⟩) := by
    rw [hW2, setCell_kept _ _ _ hne, setCell_kept _ _ _ hne]
    exact HX.out
  have x2 : W2.cell? ⟨w.heap.size, 2, none⟩ = some (.int .u64 (q : Int)) := by rw [cell_of hx2]; rfl
  have d6 : W2.cell? ⟨L.b, 6, none⟩ = some (.int .u64 (q : Int)) := hg2.h.cell 6
  have d7 : W2.cell? ⟨L.b, 7, none⟩ = some (.int .u64 (s.most : Int)) := hg2.h.cell 7
  have g6 := hg2.h.soft 6
  have HG2 := Lib.hid hg2; have HX2 := Lib.hid hx2
  clear hg2 hx2 hW2 c2 c6 f2 f6 hne H1 HX
  go_region
  obtain ⟨W3, hW3⟩ : ∃ W3, W3 = (W2.setCell ⟨L.b, 6, none⟩ (.int .u64 (q : Int))).drew := ⟨_, rfl⟩
  rw [← hW3]
  have hg3 : Stays base L w { s with least := q, cnt := s.cnt + 1 } W3 := by
    rw [hW3]
    exact (HG2.out.put (s' := { s with least := q, cnt := s.cnt + 1 }) 6 _ rfl rfl ⟨rfl, rfl⟩ ⟨rfl, rfl⟩ rfl).drew
  have hx3 : W3.heap[w.heap.size]? = some (entX ⟨K, V, q, g⟩) := by
    rw [hW3]
    exact (setCell_kept _ _ _ HNE.out).trans HX2.out
  have x3 : W3.cell? ⟨w.heap.size, 2, none⟩ = some (.int .u64 (q : Int)) := by rw [cell_of hx3]; rfl
  have e7 : W3.cell? ⟨L.b, 7, none⟩ = some (.int .u64 (s.most : Int)) := hg3.h.cell 7
  have g7 := hg3.h.soft 7
  have HG3 := Lib.hid hg3; have HX3 := Lib.hid hx3
  clear hg3 hx3 hW3 d6 d7 g6 x2 HG2 HX2
  go_wp2_with fail
  go_region
  obtain ⟨W4, hW4⟩ : ∃ W4, W4 = (W3.setCell ⟨L.b, 7, none⟩ (.int .u64 (M : Int))).drew := ⟨_, rfl⟩
  rw [← hW4]
  have hg4 : Stays base L w { s with least := q, cnt := s.cnt + 1, most := M } W4 := by
    rw [hW4]
    exact (HG3.out.put (s' := { s with least := q, cnt := s.cnt + 1, most := M }) 7 _ rfl rfl ⟨rfl, rfl⟩ ⟨rfl, rfl⟩ rfl).drew
  have hx4 : W4.heap[w.heap.size]? = some (entX ⟨K, V, q, g⟩) := by
    rw [hW4]
    exact (setCell_kept _ _ _ HNE.out).trans HX3.out
  have x0 : W4.cell? ⟨w.heap.size, 0, none⟩ = some (.string K) := by rw [cell_of hx4]; rfl
  have c8 : W4.cell? ⟨L.b, 8, none⟩ = some (.slice ka s.keys.length kc) := by rw [hg4.h.cell 8, ← HKV.out]; rfl
  have g8 := hg4.h.soft 8
  have HG4 := Lib.hid hg4; have HX4 := Lib.hid hx4
  clear hg4 hx4 hW4 e7 g7 x3 hM hmin HG3 HX3
  obtain ⟨m, hm⟩ : ∃ m, s.keys.length = m + 1 := ⟨s.keys.length - 1, by
    have : s.keys ≠ [] := by exact hk0
    have := List.length_pos_iff.2 this
    omega⟩
  have hsee := HG4.out.h.keys.sees
  rw [HKV.out] at hsee
  obtain ⟨-, kb, ko, hcell⟩ := hsee.get
  obtain ⟨hka, -, hcy⟩ := hcell m (by omega)
  have hm9 : (m : Int) ≤ 1000000000 := by have := HKL.out; omega
  rw [hm] at c8
  subst hka
  obtain ⟨Y, hY⟩ : ∃ Y, Y = s.keys.getD m ByteArray.empty := ⟨_, rfl⟩
  rw [show (({ s with least := q, cnt := s.cnt + 1, most := M } : TS).keys.getD m ByteArray.empty) = Y from hY.symm] at hcy
  have hlast : s.keys.getLast? = some Y := by
    rw [List.getLast?_eq_getElem?, hm, hY]
    rw [List.getD_eq_getElem?_getD, List.getElem?_eq_getElem (by omega : m + 1 - 1 < s.keys.length)]
    simp [List.getElem?_eq_getElem (by omega : m < s.keys.length)]
  have hw1 : IntKind.i64.wrap ((m : Int) + 1 - 1) = m := by rw [IntKind.wrap_i64]; omega
  have hm1 : (m : Int) + 1 - 1 = m := by omega
  have hwm : IntKind.i64.wrap (m : Int) = m := by rw [IntKind.wrap_i64]; omega
  have hz1 : ((m : Int) + 1 == 0) = false := by simp; omega
  have hz2 : (m : Int) < ((m + 1 : Nat) : Int) := by omega
  have hz3 : (m : Int) < (m : Int) + 1 := by omega
  have hz4 : (0 : Int) ≤ m := by omega
  have hz5 : m < m + 1 := by omega
  have hne2 : Y ≠ K := fun e => hk1 (by rw [hlast, e])
  have heq : (Y.toList == K.toList) = false := by
    rw [beq_eq_false_iff_ne, ByteArray.toList_eq, ByteArray.toList_eq]
    intro e
    exact hne2 (ByteArray.ext (Array.toList_inj.1 e))
  clear hk0 hk1
  clear hsee hcell hY hlast hne2
  go_wp2_with fail
  go_quiet (fail)
  obtain ⟨i0, hi, hz0, hz1, hz2⟩ := info_parts info_string
  have hbl := HG4.out.goes.lt
  have hown : W4.ownsRow base 9 1 L.kv (m + 1) (s.keys.map .string) := by
    have := HG4.out.h.keys
    unfold OwnsS at this
    rw [show ({ s with least := q, cnt := s.cnt + 1, most := M } : TS).keys = s.keys from rfl, show s.keys.length = (m + 1) from hm] at this
    exact this
  have hkv : L.kv = .slice (some ⟨kb, ko, none⟩) (m + 1) kc := by rw [HKV.out]; rw [hm]
  rw [hkv] at hown
  have HKV2 := Lib.hid hkv; clear hkv
  have HOWN := Lib.hid hown; clear hown
  have hn1 : L.kv.ownBlock ≠ some L.b := HG4.out.h.box_ne.1
  have HBL := Lib.hid hbl; have HN1 := Lib.hid hn1; have HLOW := Lib.hid (Nat.le_of_lt (Nat.lt_of_le_of_lt HG4.out.h.low hbl))
  clear hbl hn1
  go_wp2_with fail
  go_region_law (first
    | (go_simp; go_at_call 26; refine (HCL.out _).mono ?_; rintro e w2 ⟨rfl, hb2'⟩
       have hb2 := undrewN hb2'
       have k8 : w2.cell? ⟨L.b, 8, none⟩ = some (.slice (some ⟨kb, ko, none⟩) (m + 1) kc) := (hb2.cell (p := ⟨L.b, 8, none⟩) HBL.out).trans c8
       have k8a : (w2.alloc (.cells #[.string K] 9)).cell? ⟨L.b, 8, none⟩ = some (.slice (some ⟨kb, ko, none⟩) (m + 1) kc) := ((box_below w2 _).cell (p := ⟨L.b, 8, none⟩) (Nat.lt_of_lt_of_le HBL.out hb2.size)).trans k8
       have kf8 : w2.frozen? ⟨L.b, 8, none⟩ = false := (hb2.frozen (p := ⟨L.b, 8, none⟩) HBL.out).trans g8)
    | (refine step_append_lies _ (by rfl) _ _ _ (by rfl) base 9 i0 _ 1 16 Tryd.underlying62 hi hz0 hz1 hz2 rfl (by omega) (.slice (some ⟨kb, ko, none⟩) (m + 1) kc) (m + 1) (s.keys.map .string) (by rfl) ((ownsRow_below HOWN.out hb2).alloc _) ⟨w2.heap.size, 0, none⟩ 1 1 [.string K] (by rfl) (by rfl) (World.news_of_block (cs := #[.string K]) (t := 9) (fr := (0, 0)) (heap_alloc_new w2 _)) (by intro u hu; rw [List.mem_singleton.1 hu]; rfl) (by omega) (by have := HKL.out; unfold maxLen; omega) (by have := HKL.out; omega) (by have := HLOW.out; have := hb2.size; rw [World.size_alloc]; show base ≤ _; have h9 : W4.heap.size ≤ w2.heap.size := hb2.size; omega) _ rfl ?_
       intro gg cap w3 hown3 hgrow hat hlt3
       have k83 : w3.cell? ⟨L.b, 8, none⟩ = some (.slice (some ⟨kb, ko, none⟩) (m + 1) kc) := (hgrow.cell_far ⟨L.b, 8, none⟩ (by rw [World.size_alloc]; have := HBL.out; have h9 : W4.heap.size ≤ w2.heap.size := hb2.size; show L.b < _; omega) (by rw [← HKV2.out]; exact Ne.symm HN1.out)).trans ((box_below w2 _).cell (p := ⟨L.b, 8, none⟩) (Nat.lt_of_lt_of_le HBL.out hb2.size) |>.trans k8)
       have kf83 : w3.frozen? ⟨L.b, 8, none⟩ = false := (hgrow.frozen_far ⟨L.b, 8, none⟩ (by rw [World.size_alloc]; have := HBL.out; have h9 : W4.heap.size ≤ w2.heap.size := hb2.size; show L.b < _; omega) (by rw [← HKV2.out]; exact Ne.symm HN1.out)).trans ((box_below w2 _).frozen (p := ⟨L.b, 8, none⟩) (Nat.lt_of_lt_of_le HBL.out hb2.size) |>.trans kf8)))
  all_goals
    have HH : Hid (GoesT base L w { s with least := q, cnt := s.cnt + 1, most := M, keys := s.keys ++ [K] } (w3.setCell ⟨L.b, 8, none⟩ (.slice (some ⟨gg, 0, none⟩) ((m + 1) + 1) cap))) := Lib.hid (by
      have hs5 := HG4.out.below (hb2.trans ((box_below w2 (.cells #[.string K] 9)).mono hb2.size))
      have hown5 : OwnsS w3 base (.slice (some ⟨gg, 0, none⟩) ((m + 1) + 1) cap) (s.keys ++ [K]) := by
        unfold OwnsS
        rw [List.length_append, List.map_append, show s.keys.length = (m + 1) from hm]
        exact hown3
      rw [← HKV2.out] at hgrow hat
      exact hs5.then (hs5.h.grow_keys hown5 hgrow (fun k hk => by
        simp only [Value.ownBlock, Option.some.injEq] at hk
        subst hk
        rcases hat with e | e
        · exact Or.inl e
        · exact Or.inr (by rw [e]; exact Nat.le_refl _))))
    clear hgrow hat hown3 k83 kf83
    go_wp2_with fail
    go_end0
    exact ⟨rfl, HH.out⟩


end Go.Proofs.YtphoihkbdogkhaaDoor.Bn.Tw

/- The walk of table's note. -/
namespace Go.Proofs.YtphoihkbdogkhaaDoor.Bn.Tw
open Go Go.RowKit Go.Proofs.YtphoihkbdogkhaaDoor.Tb
open Go.Proofs.YtphoihkbdogkhaaDoor.Bn.Bo (Turns Seat BL Built GoesB OwnB ownsRow_frame ownsRow_lt ownsRow_obj heap_lt cell_of unfrozen_of obj_cells_ne setCell_kept)
set_option linter.unusedVariables false
set_option maxRecDepth 100000

theorem undrewN' {w w2 : World} {n : Nat} (h : Below (w.drewN n).heap.size (w.drewN n) w2) : Below w.heap.size w w2 := ⟨h.os, h.tape, h.output, h.size, h.block⟩
set_option maxHeartbeats 2000000 in
theorem note_n0 {w : World} {base : Nat} {L : TL} {s : TS} (h : BuiltT w base L s) (e : Ent) (hq : e.seq < 18446744073709551616) (hcn : s.cnt ≤ 1000000000) (hkl : s.keys.length ≤ 1000000000) (hks : e.key.size ≤ 1000000) (h0 : s.cnt ≠ 0) (hk0 : s.keys = []) :
    Calls Tryd.prog 30 #[.pointer (some ⟨L.b, 0, none⟩), enV e] w fun x w' => x = .returned (.tuple #[]) ∧ GoesT base L w { s with cnt := s.cnt + 1, least := min s.least e.seq, most := max s.most e.seq, keys := s.keys ++ [e.key] } w' := by
  obtain ⟨K, V, q, g⟩ := e
  dsimp only at hq hks  ⊢
  have H1 := Lib.hid (Stays.mk (h.alloc (entX ⟨K, V, q, g⟩)) (Turns.of_below (P := OwnT L) (box_below w (entX ⟨K, V, q, g⟩))))
  have HX := Lib.hid (heap_alloc_new w (entX ⟨K, V, q, g⟩))
  obtain ⟨ka, kc, ekv⟩ : ∃ a c, L.kv = .slice a s.keys.length c := Bo.row_any h.keys
  have c2 : (w.alloc (entX ⟨K, V, q, g⟩)).cell? ⟨L.b, 2, none⟩ = some (.int .i64 (s.cnt : Int)) := H1.out.h.cell 2
  have c6 : (w.alloc (entX ⟨K, V, q, g⟩)).cell? ⟨L.b, 6, none⟩ = some (.int .u64 (s.least : Int)) := H1.out.h.cell 6
  have f2 := H1.out.h.soft 2
  have f6 := H1.out.h.soft 6
  have hne : w.heap.size ≠ L.b := by have := heap_lt h.box; omega
  have HNE := Lib.hid hne
  have hc1 : (s.cnt : Int) ≤ 1000000000 := by omega
  have HKV := Lib.hid ekv; have HKL := Lib.hid hkl; have HKS := Lib.hid hks
  have HCL := Lib.hid (fun W => clone_any K W (by omega))
  obtain ⟨M, hM, hM2⟩ : ∃ M : Nat, max (s.most : Int) (q : Int) = (M : Int) ∧ max s.most q = M := ⟨max s.most q, by omega, rfl⟩
  rw [hM2]
  clear hM2
  clear h ekv hcn hkl hks
  have e0 : ((s.cnt : Int) == 0) = false := by simp; omega
  clear h0
  obtain ⟨m6, hmin, hm6⟩ : ∃ m : Nat, min (s.least : Int) (q : Int) = (m : Int) ∧ min s.least q = m := ⟨min s.least q, by omega, rfl⟩
  rw [hm6]
  clear hm6
  dsimp only [enV]
  go_enter Tryd.func30, Tryd.ntmps30
  go_wp2_with fail
  obtain ⟨W2, hW2⟩ : ∃ W2, W2 = (w.alloc (entX ⟨K, V, q, g⟩)).setCell ⟨L.b, 2, none⟩ (.int .i64 ((s.cnt : Int) + 1)) := ⟨_, rfl⟩
  rw [← hW2]
  have hg2 : Stays base L w { s with cnt := s.cnt + 1 } W2 := by
    rw [hW2]
    exact H1.out.put 2 _ rfl rfl ⟨rfl, rfl⟩ ⟨rfl, rfl⟩ rfl
  have hx2 : W2.heap[w.heap.size]? = some (entX ⟨K, V, q, g⟩) := by
    rw [hW2, setCell_kept _ _ _ hne]
    exact HX.out
  have x2 : W2.cell? ⟨w.heap.size, 2, none⟩ = some (.int .u64 (q : Int)) := by rw [cell_of hx2]; rfl
  have d6 : W2.cell? ⟨L.b, 6, none⟩ = some (.int .u64 (s.least : Int)) := hg2.h.cell 6
  have d7 : W2.cell? ⟨L.b, 7, none⟩ = some (.int .u64 (s.most : Int)) := hg2.h.cell 7
  have g6 := hg2.h.soft 6
  have HG2 := Lib.hid hg2; have HX2 := Lib.hid hx2
  clear hg2 hx2 hW2 c2 c6 f2 f6 hne H1 HX
  go_region
  obtain ⟨W3, hW3⟩ : ∃ W3, W3 = (W2.setCell ⟨L.b, 6, none⟩ (.int .u64 (m6 : Int))).drew := ⟨_, rfl⟩
  rw [← hW3]
  have hg3 : Stays base L w { s with least := m6, cnt := s.cnt + 1 } W3 := by
    rw [hW3]
    exact (HG2.out.put (s' := { s with least := m6, cnt := s.cnt + 1 }) 6 _ rfl rfl ⟨rfl, rfl⟩ ⟨rfl, rfl⟩ rfl).drew
  have hx3 : W3.heap[w.heap.size]? = some (entX ⟨K, V, q, g⟩) := by
    rw [hW3]
    exact (setCell_kept _ _ _ HNE.out).trans HX2.out
  have x3 : W3.cell? ⟨w.heap.size, 2, none⟩ = some (.int .u64 (q : Int)) := by rw [cell_of hx3]; rfl
  have e7 : W3.cell? ⟨L.b, 7, none⟩ = some (.int .u64 (s.most : Int)) := hg3.h.cell 7
  have g7 := hg3.h.soft 7
  have HG3 := Lib.hid hg3; have HX3 := Lib.hid hx3
  clear hg3 hx3 hW3 d6 d7 g6 x2 HG2 HX2
  go_wp2_with fail
  go_region
  obtain ⟨W4, hW4⟩ : ∃ W4, W4 = (W3.setCell ⟨L.b, 7, none⟩ (.int .u64 (M : Int))).drew := ⟨_, rfl⟩
  rw [← hW4]
  have hg4 : Stays base L w { s with least := m6, cnt := s.cnt + 1, most := M } W4 := by
    rw [hW4]
    exact (HG3.out.put (s' := { s with least := m6, cnt := s.cnt + 1, most := M }) 7 _ rfl rfl ⟨rfl, rfl⟩ ⟨rfl, rfl⟩ rfl).drew
  have hx4 : W4.heap[w.heap.size]? = some (entX ⟨K, V, q, g⟩) := by
    rw [hW4]
    exact (setCell_kept _ _ _ HNE.out).trans HX3.out
  have x0 : W4.cell? ⟨w.heap.size, 0, none⟩ = some (.string K) := by rw [cell_of hx4]; rfl
  have c8 : W4.cell? ⟨L.b, 8, none⟩ = some (.slice ka s.keys.length kc) := by rw [hg4.h.cell 8, ← HKV.out]; rfl
  have g8 := hg4.h.soft 8
  have HG4 := Lib.hid hg4; have HX4 := Lib.hid hx4
  clear hg4 hx4 hW4 e7 g7 x3 hM hmin HG3 HX3
  have HK0 := Lib.hid hk0
  have hkz : s.keys.length = 0 := by rw [hk0]; rfl
  rw [hkz] at c8
  clear hk0 hkz
  go_wp2_with fail
  go_quiet (fail)
  obtain ⟨i0, hi, hz0, hz1, hz2⟩ := info_parts info_string
  have hbl := HG4.out.goes.lt
  have hown : W4.ownsRow base 9 1 L.kv 0 (s.keys.map .string) := by
    have := HG4.out.h.keys
    unfold OwnsS at this
    rw [show ({ s with least := m6, cnt := s.cnt + 1, most := M } : TS).keys = s.keys from rfl, show s.keys.length = 0 from by rw [HK0.out]; rfl] at this
    exact this
  have hkv : L.kv = .slice ka 0 kc := by rw [HKV.out]; rw [HK0.out]; rfl
  rw [hkv] at hown
  have HKV2 := Lib.hid hkv; clear hkv
  have HOWN := Lib.hid hown; clear hown
  have hn1 : L.kv.ownBlock ≠ some L.b := HG4.out.h.box_ne.1
  have HBL := Lib.hid hbl; have HN1 := Lib.hid hn1; have HLOW := Lib.hid (Nat.le_of_lt (Nat.lt_of_le_of_lt HG4.out.h.low hbl))
  clear hbl hn1
  go_wp2_with fail
  go_region_law (first
    | (go_simp; go_at_call 26; refine (HCL.out _).mono ?_; rintro e w2 ⟨rfl, hb2'⟩
       have hb2 := undrewN' hb2'
       have k8 : w2.cell? ⟨L.b, 8, none⟩ = some (.slice ka 0 kc) := (hb2.cell (p := ⟨L.b, 8, none⟩) HBL.out).trans c8
       have k8a : (w2.alloc (.cells #[.string K] 9)).cell? ⟨L.b, 8, none⟩ = some (.slice ka 0 kc) := ((box_below w2 _).cell (p := ⟨L.b, 8, none⟩) (Nat.lt_of_lt_of_le HBL.out hb2.size)).trans k8
       have kf8 : w2.frozen? ⟨L.b, 8, none⟩ = false := (hb2.frozen (p := ⟨L.b, 8, none⟩) HBL.out).trans g8)
    | (refine step_append_lies _ (by rfl) _ _ _ (by rfl) base 9 i0 _ 1 16 Tryd.underlying62 hi hz0 hz1 hz2 rfl (by omega) (.slice ka 0 kc) 0 (s.keys.map .string) (by rfl) ((ownsRow_below HOWN.out hb2).alloc _) ⟨w2.heap.size, 0, none⟩ 1 1 [.string K] (by rfl) (by rfl) (World.news_of_block (cs := #[.string K]) (t := 9) (fr := (0, 0)) (heap_alloc_new w2 _)) (by intro u hu; rw [List.mem_singleton.1 hu]; rfl) (by omega) (by have := HKL.out; unfold maxLen; omega) (by have := HKL.out; omega) (by have := HLOW.out; have := hb2.size; rw [World.size_alloc]; show base ≤ _; have h9 : W4.heap.size ≤ w2.heap.size := hb2.size; omega) _ rfl ?_
       intro gg cap w3 hown3 hgrow hat hlt3
       have k83 : w3.cell? ⟨L.b, 8, none⟩ = some (.slice ka 0 kc) := (hgrow.cell_far ⟨L.b, 8, none⟩ (by rw [World.size_alloc]; have := HBL.out; have h9 : W4.heap.size ≤ w2.heap.size := hb2.size; show L.b < _; omega) (by rw [← HKV2.out]; exact Ne.symm HN1.out)).trans ((box_below w2 _).cell (p := ⟨L.b, 8, none⟩) (Nat.lt_of_lt_of_le HBL.out hb2.size) |>.trans k8)
       have kf83 : w3.frozen? ⟨L.b, 8, none⟩ = false := (hgrow.frozen_far ⟨L.b, 8, none⟩ (by rw [World.size_alloc]; have := HBL.out; have h9 : W4.heap.size ≤ w2.heap.size := hb2.size; show L.b < _; omega) (by rw [← HKV2.out]; exact Ne.symm HN1.out)).trans ((box_below w2 _).frozen (p := ⟨L.b, 8, none⟩) (Nat.lt_of_lt_of_le HBL.out hb2.size) |>.trans kf8)))
  all_goals
    have HH : Hid (GoesT base L w { s with least := m6, cnt := s.cnt + 1, most := M, keys := s.keys ++ [K] } (w3.setCell ⟨L.b, 8, none⟩ (.slice (some ⟨gg, 0, none⟩) (0 + 1) cap))) := Lib.hid (by
      have hs5 := HG4.out.below (hb2.trans ((box_below w2 (.cells #[.string K] 9)).mono hb2.size))
      have hown5 : OwnsS w3 base (.slice (some ⟨gg, 0, none⟩) (0 + 1) cap) (s.keys ++ [K]) := by
        unfold OwnsS
        rw [List.length_append, List.map_append, show s.keys.length = 0 from by rw [HK0.out]; rfl]
        exact hown3
      rw [← HKV2.out] at hgrow hat
      exact hs5.then (hs5.h.grow_keys hown5 hgrow (fun k hk => by
        simp only [Value.ownBlock, Option.some.injEq] at hk
        subst hk
        rcases hat with e | e
        · exact Or.inl e
        · exact Or.inr (by rw [e]; exact Nat.le_refl _))))
    clear hgrow hat hown3 k83 kf83
    go_wp2_with fail
    go_end0
    exact ⟨rfl, HH.out⟩


set_option maxHeartbeats 2000000 in
theorem note_n1 {w : World} {base : Nat} {L : TL} {s : TS} (h : BuiltT w base L s) (e : Ent) (hq : e.seq < 18446744073709551616) (hcn : s.cnt ≤ 1000000000) (hkl : s.keys.length ≤ 1000000000) (hks : e.key.size ≤ 1000000) (h0 : s.cnt ≠ 0) (hk0 : s.keys.getLast? = some e.key) :
    Calls Tryd.prog 30 #[.pointer (some ⟨L.b, 0, none⟩), enV e] w fun x w' => x = .returned (.tuple #[]) ∧ GoesT base L w { s with cnt := s.cnt + 1, least := min s.least e.seq, most := max s.most e.seq, keys := s.keys } w' := by
  obtain ⟨K, V, q, g⟩ := e
  dsimp only at hq hks hk0 ⊢
  have H1 := Lib.hid (Stays.mk (h.alloc (entX ⟨K, V, q, g⟩)) (Turns.of_below (P := OwnT L) (box_below w (entX ⟨K, V, q, g⟩))))
  have HX := Lib.hid (heap_alloc_new w (entX ⟨K, V, q, g⟩))
  obtain ⟨ka, kc, ekv⟩ : ∃ a c, L.kv = .slice a s.keys.length c := Bo.row_any h.keys
  have c2 : (w.alloc (entX ⟨K, V, q, g⟩)).cell? ⟨L.b, 2, none⟩ = some (.int .i64 (s.cnt : Int)) := H1.out.h.cell 2
  have c6 : (w.alloc (entX ⟨K, V, q, g⟩)).cell? ⟨L.b, 6, none⟩ = some (.int .u64 (s.least : Int)) := H1.out.h.cell 6
  have f2 := H1.out.h.soft 2
  have f6 := H1.out.h.soft 6
  have hne : w.heap.size ≠ L.b := by have := heap_lt h.box; omega
  have HNE := Lib.hid hne
  have hc1 : (s.cnt : Int) ≤ 1000000000 := by omega
  have HKV := Lib.hid ekv; have HKL := Lib.hid hkl; have HKS := Lib.hid hks
  have HCL := Lib.hid (fun W => clone_any K W (by omega))
  obtain ⟨M, hM, hM2⟩ : ∃ M : Nat, max (s.most : Int) (q : Int) = (M : Int) ∧ max s.most q = M := ⟨max s.most q, by omega, rfl⟩
  rw [hM2]
  clear hM2
  clear h ekv hcn hkl hks
  have e0 : ((s.cnt : Int) == 0) = false := by simp; omega
  clear h0
  obtain ⟨m6, hmin, hm6⟩ : ∃ m : Nat, min (s.least : Int) (q : Int) = (m : Int) ∧ min s.least q = m := ⟨min s.least q, by omega, rfl⟩
  rw [hm6]
  clear hm6
  dsimp only [enV]
  go_enter Tryd.func30, Tryd.ntmps30
  go_wp2_with fail
  obtain ⟨W2, hW2⟩ : ∃ W2, W2 = (w.alloc (entX ⟨K, V, q, g⟩)).setCell ⟨L.b, 2, none⟩ (.int .i64 ((s.cnt : Int) + 1)) := ⟨_, rfl⟩
  rw [← hW2]
  have hg2 : Stays base L w { s with cnt := s.cnt + 1 } W2 := by
    rw [hW2]
    exact H1.out.put 2 _ rfl rfl ⟨rfl, rfl⟩ ⟨rfl, rfl⟩ rfl
  have hx2 : W2.heap[w.heap.size]? = some (entX ⟨K, V, q, g⟩) := by
    rw [hW2, setCell_kept _ _ _ hne]
    exact HX.out
  have x2 : W2.cell? ⟨w.heap.size, 2, none⟩ = some (.int .u64 (q : Int)) := by rw [cell_of hx2]; rfl
  have d6 : W2.cell? ⟨L.b, 6, none⟩ = some (.int .u64 (s.least : Int)) := hg2.h.cell 6
  have d7 : W2.cell? ⟨L.b, 7, none⟩ = some (.int .u64 (s.most : Int)) := hg2.h.cell 7
  have g6 := hg2.h.soft 6
  have HG2 := Lib.hid hg2; have HX2 := Lib.hid hx2
  clear hg2 hx2 hW2 c2 c6 f2 f6 hne H1 HX
  go_region
  obtain ⟨W3, hW3⟩ : ∃ W3, W3 = (W2.setCell ⟨L.b, 6, none⟩ (.int .u64 (m6 : Int))).drew := ⟨_, rfl⟩
  rw [← hW3]
  have hg3 : Stays base L w { s with least := m6, cnt := s.cnt + 1 } W3 := by
    rw [hW3]
    exact (HG2.out.put (s' := { s with least := m6, cnt := s.cnt + 1 }) 6 _ rfl rfl ⟨rfl, rfl⟩ ⟨rfl, rfl⟩ rfl).drew
  have hx3 : W3.heap[w.heap.size]? = some (entX ⟨K, V, q, g⟩) := by
    rw [hW3]
    exact (setCell_kept _ _ _ HNE.out).trans HX2.out
  have x3 : W3.cell? ⟨w.heap.size, 2, none⟩ = some (.int .u64 (q : Int)) := by rw [cell_of hx3]; rfl
  have e7 : W3.cell? ⟨L.b, 7, none⟩ = some (.int .u64 (s.most : Int)) := hg3.h.cell 7
  have g7 := hg3.h.soft 7
  have HG3 := Lib.hid hg3; have HX3 := Lib.hid hx3
  clear hg3 hx3 hW3 d6 d7 g6 x2 HG2 HX2
  go_wp2_with fail
  go_region
  obtain ⟨W4, hW4⟩ : ∃ W4, W4 = (W3.setCell ⟨L.b, 7, none⟩ (.int .u64 (M : Int))).drew := ⟨_, rfl⟩
  rw [← hW4]
  have hg4 : Stays base L w { s with least := m6, cnt := s.cnt + 1, most := M } W4 := by
    rw [hW4]
    exact (HG3.out.put (s' := { s with least := m6, cnt := s.cnt + 1, most := M }) 7 _ rfl rfl ⟨rfl, rfl⟩ ⟨rfl, rfl⟩ rfl).drew
  have hx4 : W4.heap[w.heap.size]? = some (entX ⟨K, V, q, g⟩) := by
    rw [hW4]
    exact (setCell_kept _ _ _ HNE.out).trans HX3.out
  have x0 : W4.cell? ⟨w.heap.size, 0, none⟩ = some (.string K) := by rw [cell_of hx4]; rfl
  have c8 : W4.cell? ⟨L.b, 8, none⟩ = some (.slice ka s.keys.length kc) := by rw [hg4.h.cell 8, ← HKV.out]; rfl
  have g8 := hg4.h.soft 8
  have HG4 := Lib.hid hg4; have HX4 := Lib.hid hx4
  clear hg4 hx4 hW4 e7 g7 x3 hM hmin HG3 HX3
  obtain ⟨m, hm⟩ : ∃ m, s.keys.length = m + 1 := ⟨s.keys.length - 1, by
    have : s.keys ≠ [] := by rintro e; rw [e] at hk0; cases hk0
    have := List.length_pos_iff.2 this
    omega⟩
  have hsee := HG4.out.h.keys.sees
  rw [HKV.out] at hsee
  obtain ⟨-, kb, ko, hcell⟩ := hsee.get
  obtain ⟨hka, -, hcy⟩ := hcell m (by omega)
  have hm9 : (m : Int) ≤ 1000000000 := by have := HKL.out; omega
  rw [hm] at c8
  subst hka
  obtain ⟨Y, hY⟩ : ∃ Y, Y = s.keys.getD m ByteArray.empty := ⟨_, rfl⟩
  rw [show (({ s with least := m6, cnt := s.cnt + 1, most := M } : TS).keys.getD m ByteArray.empty) = Y from hY.symm] at hcy
  have hlast : s.keys.getLast? = some Y := by
    rw [List.getLast?_eq_getElem?, hm, hY]
    rw [List.getD_eq_getElem?_getD, List.getElem?_eq_getElem (by omega : m + 1 - 1 < s.keys.length)]
    simp [List.getElem?_eq_getElem (by omega : m < s.keys.length)]
  have hw1 : IntKind.i64.wrap ((m : Int) + 1 - 1) = m := by rw [IntKind.wrap_i64]; omega
  have hm1 : (m : Int) + 1 - 1 = m := by omega
  have hwm : IntKind.i64.wrap (m : Int) = m := by rw [IntKind.wrap_i64]; omega
  have hz1 : ((m : Int) + 1 == 0) = false := by simp; omega
  have hz2 : (m : Int) < ((m + 1 : Nat) : Int) := by omega
  have hz3 : (m : Int) < (m : Int) + 1 := by omega
  have hz4 : (0 : Int) ≤ m := by omega
  have hz5 : m < m + 1 := by omega
  obtain rfl : Y = K := by rw [hlast] at hk0; exact Option.some.inj hk0
  have heq : (Y.toList == Y.toList) = true := by simp
  clear hk0
  clear hsee hcell hY hlast 
  go_wp2_with fail
  go_quiet (fail)
  go_wp2_with fail
  go_end0
  exact ⟨rfl, HG4.out.goes.below ⟨rfl, rfl, rfl, Nat.le_refl _, fun _ _ => rfl⟩⟩

set_option maxHeartbeats 2000000 in
theorem note_n2 {w : World} {base : Nat} {L : TL} {s : TS} (h : BuiltT w base L s) (e : Ent) (hq : e.seq < 18446744073709551616) (hcn : s.cnt ≤ 1000000000) (hkl : s.keys.length ≤ 1000000000) (hks : e.key.size ≤ 1000000) (h0 : s.cnt ≠ 0) (hk0 : s.keys ≠ []) (hk1 : s.keys.getLast? ≠ some e.key) :
    Calls Tryd.prog 30 #[.pointer (some ⟨L.b, 0, none⟩), enV e] w fun x w' => x = .returned (.tuple #[]) ∧ GoesT base L w { s with cnt := s.cnt + 1, least := min s.least e.seq, most := max s.most e.seq, keys := s.keys ++ [e.key] } w' := by
  obtain ⟨K, V, q, g⟩ := e
  dsimp only at hq hks hk0 hk1 ⊢
  have H1 := Lib.hid (Stays.mk (h.alloc (entX ⟨K, V, q, g⟩)) (Turns.of_below (P := OwnT L) (box_below w (entX ⟨K, V, q, g⟩))))
  have HX := Lib.hid (heap_alloc_new w (entX ⟨K, V, q, g⟩))
  obtain ⟨ka, kc, ekv⟩ : ∃ a c, L.kv = .slice a s.keys.length c := Bo.row_any h.keys
  have c2 : (w.alloc (entX ⟨K, V, q, g⟩)).cell? ⟨L.b, 2, none⟩ = some (.int .i64 (s.cnt : Int)) := H1.out.h.cell 2
  have c6 : (w.alloc (entX ⟨K, V, q, g⟩)).cell? ⟨L.b, 6, none⟩ = some (.int .u64 (s.least : Int)) := H1.out.h.cell 6
  have f2 := H1.out.h.soft 2
  have f6 := H1.out.h.soft 6
  have hne : w.heap.size ≠ L.b := by have := heap_lt h.box; omega
  have HNE := Lib.hid hne
  have hc1 : (s.cnt : Int) ≤ 1000000000 := by omega
  have HKV := Lib.hid ekv; have HKL := Lib.hid hkl; have HKS := Lib.hid hks
  have HCL := Lib.hid (fun W => clone_any K W (by omega))
  obtain ⟨M, hM, hM2⟩ : ∃ M : Nat, max (s.most : Int) (q : Int) = (M : Int) ∧ max s.most q = M := ⟨max s.most q, by omega, rfl⟩
  rw [hM2]
  clear hM2
  clear h ekv hcn hkl hks
  have e0 : ((s.cnt : Int) == 0) = false := by simp; omega
  clear h0
  obtain ⟨m6, hmin, hm6⟩ : ∃ m : Nat, min (s.least : Int) (q : Int) = (m : Int) ∧ min s.least q = m := ⟨min s.least q, by omega, rfl⟩
  rw [hm6]
  clear hm6
  dsimp only [enV]
  go_enter Tryd.func30, Tryd.ntmps30
  go_wp2_with fail
  obtain ⟨W2, hW2⟩ : ∃ W2, W2 = (w.alloc (entX ⟨K, V, q, g⟩)).setCell ⟨L.b, 2, none⟩ (.int .i64 ((s.cnt : Int) + 1)) := ⟨_, rfl⟩
  rw [← hW2]
  have hg2 : Stays base L w { s with cnt := s.cnt + 1 } W2 := by
    rw [hW2]
    exact H1.out.put 2 _ rfl rfl ⟨rfl, rfl⟩ ⟨rfl, rfl⟩ rfl
  have hx2 : W2.heap[w.heap.size]? = some (entX ⟨K, V, q, g⟩) := by
    rw [hW2, setCell_kept _ _ _ hne]
    exact HX.out
  have x2 : W2.cell? ⟨w.heap.size, 2, none⟩ = some (.int .u64 (q : Int)) := by rw [cell_of hx2]; rfl
  have d6 : W2.cell? ⟨L.b, 6, none⟩ = some (.int .u64 (s.least : Int)) := hg2.h.cell 6
  have d7 : W2.cell? ⟨L.b, 7, none⟩ = some (.int .u64 (s.most : Int)) := hg2.h.cell 7
  have g6 := hg2.h.soft 6
  have HG2 := Lib.hid hg2; have HX2 := Lib.hid hx2
  clear hg2 hx2 hW2 c2 c6 f2 f6 hne H1 HX
  go_region
  obtain ⟨W3, hW3⟩ : ∃ W3, W3 = (W2.setCell ⟨L.b, 6, none⟩ (.int .u64 (m6 : Int))).drew := ⟨_, rfl⟩
  rw [← hW3]
  have hg3 : Stays base L w { s with least := m6, cnt := s.cnt + 1 } W3 := by
    rw [hW3]
    exact (HG2.out.put (s' := { s with least := m6, cnt := s.cnt + 1 }) 6 _ rfl rfl ⟨rfl, rfl⟩ ⟨rfl, rfl⟩ rfl).drew
  have hx3 : W3.heap[w.heap.size]? = some (entX ⟨K, V, q, g⟩) := by
    rw [hW3]
    exact (setCell_kept _ _ _ HNE.out).trans HX2.out
  have x3 : W3.cell? ⟨w.heap.size, 2, none⟩ = some (.int .u64 (q : Int)) := by rw [cell_of hx3]; rfl
  have e7 : W3.cell? ⟨L.b, 7, none⟩ = some (.int .u64 (s.most : Int)) := hg3.h.cell 7
  have g7 := hg3.h.soft 7
  have HG3 := Lib.hid hg3; have HX3 := Lib.hid hx3
  clear hg3 hx3 hW3 d6 d7 g6 x2 HG2 HX2
  go_wp2_with fail
  go_region
  obtain ⟨W4, hW4⟩ : ∃ W4, W4 = (W3.setCell ⟨L.b, 7, none⟩ (.int .u64 (M : Int))).drew := ⟨_, rfl⟩
  rw [← hW4]
  have hg4 : Stays base L w { s with least := m6, cnt := s.cnt + 1, most := M } W4 := by
    rw [hW4]
    exact (HG3.out.put (s' := { s with least := m6, cnt := s.cnt + 1, most := M }) 7 _ rfl rfl ⟨rfl, rfl⟩ ⟨rfl, rfl⟩ rfl).drew
  have hx4 : W4.heap[w.heap.size]? = some (entX ⟨K, V, q, g⟩) := by
    rw [hW4]
    exact (setCell_kept _ _ _ HNE.out).trans HX3.out
  have x0 : W4.cell? ⟨w.heap.size, 0, none⟩ = some (.string K) := by rw [cell_of hx4]; rfl
  have c8 : W4.cell? ⟨L.b, 8, none⟩ = some (.slice ka s.keys.length kc) := by rw [hg4.h.cell 8, ← HKV.out]; rfl
  have g8 := hg4.h.soft 8
  have HG4 := Lib.hid hg4; have HX4 := Lib.hid hx4
  clear hg4 hx4 hW4 e7 g7 x3 hM hmin HG3 HX3
  obtain ⟨m, hm⟩ : ∃ m, s.keys.length = m + 1 := ⟨s.keys.length - 1, by
    have : s.keys ≠ [] := by exact hk0
    have := List.length_pos_iff.2 this
    omega⟩
  have hsee := HG4.out.h.keys.sees
  rw [HKV.out] at hsee
  obtain ⟨-, kb, ko, hcell⟩ := hsee.get
  obtain ⟨hka, -, hcy⟩ := hcell m (by omega)
  have hm9 : (m : Int) ≤ 1000000000 := by have := HKL.out; omega
  rw [hm] at c8
  subst hka
  obtain ⟨Y, hY⟩ : ∃ Y, Y = s.keys.getD m ByteArray.empty := ⟨_, rfl⟩
  rw [show (({ s with least := m6, cnt := s.cnt + 1, most := M } : TS).keys.getD m ByteArray.empty) = Y from hY.symm] at hcy
  have hlast : s.keys.getLast? = some Y := by
    rw [List.getLast?_eq_getElem?, hm, hY]
    rw [List.getD_eq_getElem?_getD, List.getElem?_eq_getElem (by omega : m + 1 - 1 < s.keys.length)]
    simp [List.getElem?_eq_getElem (by omega : m < s.keys.length)]
  have hw1 : IntKind.i64.wrap ((m : Int) + 1 - 1) = m := by rw [IntKind.wrap_i64]; omega
  have hm1 : (m : Int) + 1 - 1 = m := by omega
  have hwm : IntKind.i64.wrap (m : Int) = m := by rw [IntKind.wrap_i64]; omega
  have hz1 : ((m : Int) + 1 == 0) = false := by simp; omega
  have hz2 : (m : Int) < ((m + 1 : Nat) : Int) := by omega
  have hz3 : (m : Int) < (m : Int) + 1 := by omega
  have hz4 : (0 : Int) ≤ m := by omega
  have hz5 : m < m + 1 := by omega
  have hne2 : Y ≠ K := fun e => hk1 (by rw [hlast, e])
  have heq : (Y.toList == K.toList) = false := by
    rw [beq_eq_false_iff_ne, ByteArray.toList_eq, ByteArray.toList_eq]
    intro e
    exact hne2 (ByteArray.ext (Array.toList_inj.1 e))
  clear hk0 hk1
  clear hsee hcell hY hlast hne2
  go_wp2_with fail
  go_quiet (fail)
  obtain ⟨i0, hi, hz0, hz1, hz2⟩ := info_parts info_string
  have hbl := HG4.out.goes.lt
  have hown : W4.ownsRow base 9 1 L.kv (m + 1) (s.keys.map .string) := by
    have := HG4.out.h.keys
    unfold OwnsS at this
    rw [show ({ s with least := m6, cnt := s.cnt + 1, most := M } : TS).keys = s.keys from rfl, show s.keys.length = (m + 1) from hm] at this
    exact this
  have hkv : L.kv = .slice (some ⟨kb, ko, none⟩) (m + 1) kc := by rw [HKV.out]; rw [hm]
  rw [hkv] at hown
  have HKV2 := Lib.hid hkv; clear hkv
  have HOWN := Lib.hid hown; clear hown
  have hn1 : L.kv.ownBlock ≠ some L.b := HG4.out.h.box_ne.1
  have HBL := Lib.hid hbl; have HN1 := Lib.hid hn1; have HLOW := Lib.hid (Nat.le_of_lt (Nat.lt_of_le_of_lt HG4.out.h.low hbl))
  clear hbl hn1
  go_wp2_with fail
  go_region_law (first
    | (go_simp; go_at_call 26; refine (HCL.out _).mono ?_; rintro e w2 ⟨rfl, hb2'⟩
       have hb2 := undrewN' hb2'
       have k8 : w2.cell? ⟨L.b, 8, none⟩ = some (.slice (some ⟨kb, ko, none⟩) (m + 1) kc) := (hb2.cell (p := ⟨L.b, 8, none⟩) HBL.out).trans c8
       have k8a : (w2.alloc (.cells #[.string K] 9)).cell? ⟨L.b, 8, none⟩ = some (.slice (some ⟨kb, ko, none⟩) (m + 1) kc) := ((box_below w2 _).cell (p := ⟨L.b, 8, none⟩) (Nat.lt_of_lt_of_le HBL.out hb2.size)).trans k8
       have kf8 : w2.frozen? ⟨L.b, 8, none⟩ = false := (hb2.frozen (p := ⟨L.b, 8, none⟩) HBL.out).trans g8)
    | (refine step_append_lies _ (by rfl) _ _ _ (by rfl) base 9 i0 _ 1 16 Tryd.underlying62 hi hz0 hz1 hz2 rfl (by omega) (.slice (some ⟨kb, ko, none⟩) (m + 1) kc) (m + 1) (s.keys.map .string) (by rfl) ((ownsRow_below HOWN.out hb2).alloc _) ⟨w2.heap.size, 0, none⟩ 1 1 [.string K] (by rfl) (by rfl) (World.news_of_block (cs := #[.string K]) (t := 9) (fr := (0, 0)) (heap_alloc_new w2 _)) (by intro u hu; rw [List.mem_singleton.1 hu]; rfl) (by omega) (by have := HKL.out; unfold maxLen; omega) (by have := HKL.out; omega) (by have := HLOW.out; have := hb2.size; rw [World.size_alloc]; show base ≤ _; have h9 : W4.heap.size ≤ w2.heap.size := hb2.size; omega) _ rfl ?_
       intro gg cap w3 hown3 hgrow hat hlt3
       have k83 : w3.cell? ⟨L.b, 8, none⟩ = some (.slice (some ⟨kb, ko, none⟩) (m + 1) kc) := (hgrow.cell_far ⟨L.b, 8, none⟩ (by rw [World.size_alloc]; have := HBL.out; have h9 : W4.heap.size ≤ w2.heap.size := hb2.size; show L.b < _; omega) (by rw [← HKV2.out]; exact Ne.symm HN1.out)).trans ((box_below w2 _).cell (p := ⟨L.b, 8, none⟩) (Nat.lt_of_lt_of_le HBL.out hb2.size) |>.trans k8)
       have kf83 : w3.frozen? ⟨L.b, 8, none⟩ = false := (hgrow.frozen_far ⟨L.b, 8, none⟩ (by rw [World.size_alloc]; have := HBL.out; have h9 : W4.heap.size ≤ w2.heap.size := hb2.size; show L.b < _; omega) (by rw [← HKV2.out]; exact Ne.symm HN1.out)).trans ((box_below w2 _).frozen (p := ⟨L.b, 8, none⟩) (Nat.lt_of_lt_of_le HBL.out hb2.size) |>.trans kf8)))
  all_goals
    have HH : Hid (GoesT base L w { s with least := m6, cnt := s.cnt + 1, most := M, keys := s.keys ++ [K] } (w3.setCell ⟨L.b, 8, none⟩ (.slice (some ⟨gg, 0, none⟩) ((m + 1) + 1) cap))) := Lib.hid (by
      have hs5 := HG4.out.below (hb2.trans ((box_below w2 (.cells #[.string K] 9)).mono hb2.size))
      have hown5 : OwnsS w3 base (.slice (some ⟨gg, 0, none⟩) ((m + 1) + 1) cap) (s.keys ++ [K]) := by
        unfold OwnsS
        rw [List.length_append, List.map_append, show s.keys.length = (m + 1) from hm]
        exact hown3
      rw [← HKV2.out] at hgrow hat
      exact hs5.then (hs5.h.grow_keys hown5 hgrow (fun k hk => by
        simp only [Value.ownBlock, Option.some.injEq] at hk
        subst hk
        rcases hat with e | e
        · exact Or.inl e
        · exact Or.inr (by rw [e]; exact Nat.le_refl _))))
    clear hgrow hat hown3 k83 kf83
    go_wp2_with fail
    go_end0
    exact ⟨rfl, HH.out⟩


end Go.Proofs.YtphoihkbdogkhaaDoor.Bn.Tw

/- The walk of table's note. -/
namespace Go.Proofs.YtphoihkbdogkhaaDoor.Bn.Tw
open Go Go.RowKit Go.Proofs.YtphoihkbdogkhaaDoor.Tb
open Go.Proofs.YtphoihkbdogkhaaDoor.Bn.Bo (Turns Seat BL Built GoesB OwnB ownsRow_frame ownsRow_lt ownsRow_obj heap_lt cell_of unfrozen_of obj_cells_ne setCell_kept)
set_option linter.unusedVariables false
set_option maxRecDepth 100000

theorem note_any {w : World} {base : Nat} {L : TL} {s : TS} (h : BuiltT w base L s) (e : Ent) (hq : e.seq < 18446744073709551616) (hcn : s.cnt ≤ 1000000000) (hkl : s.keys.length ≤ 1000000000) (hks : e.key.size ≤ 1000000) :
    Calls Tryd.prog 30 #[.pointer (some ⟨L.b, 0, none⟩), enV e] w fun x w' => x = .returned (.tuple #[]) ∧ GoesT base L w (s.note e) w' := by
  unfold TS.note addKey
  by_cases h0 : s.cnt = 0
  · by_cases h1 : s.keys.getLast? = some e.key
    · rw [if_pos h0, if_pos h1]
      exact note_z1 h e hq hcn hkl hks h0 h1
    · rw [if_pos h0, if_neg h1]
      by_cases h2 : s.keys = []
      · exact note_z0 h e hq hcn hkl hks h0 h2
      · exact note_z2 h e hq hcn hkl hks h0 h2 h1
  · by_cases h1 : s.keys.getLast? = some e.key
    · rw [if_neg h0, if_pos h1]
      exact note_n1 h e hq hcn hkl hks h0 h1
    · rw [if_neg h0, if_neg h1]
      by_cases h2 : s.keys = []
      · exact note_n0 h e hq hcn hkl hks h0 h2
      · exact note_n2 h e hq hcn hkl hks h0 h2 h1
end Go.Proofs.YtphoihkbdogkhaaDoor.Bn.Tw

/- The walk of table's endBlock. -/
namespace Go.Proofs.YtphoihkbdogkhaaDoor.Bn.Tw
open Go Go.RowKit Go.Proofs.YtphoihkbdogkhaaDoor.Tb
open Go.Proofs.YtphoihkbdogkhaaDoor.Bn.Bo (Turns Seat BL Built GoesB OwnB ownsRow_frame ownsRow_lt ownsRow_obj heap_lt cell_of unfrozen_of obj_cells_ne setCell_kept)
set_option linter.unusedVariables false
set_option maxRecDepth 100000

theorem seesU_heap2 {w : World} {B n m : Nat} {t : TypeId} (h : w.heap[B]? = some (.cells #[.int .u64 (n : Int), .int .u64 (m : Int)] t (0, 0))) : SeesU w (.slice (some ⟨B, 0, none⟩) 2 2) [n, m] := by
  refine Or.inr ⟨B, 0, 2, rfl, heap_lt h, fun i hi => ?_⟩
  rw [cell_of h]
  match i, hi with
  | 0, _ => rfl
  | 1, _ => rfl
theorem wpList_append_str {w : World} {ops : Array Oper} {rest : List Oper} {o : Oper} {a : Act} {Q : Exit → Act → World → Prop} (hgd : o.guard = none) (sl x : Operand)
    (ho : o.op = .call { callee := .builtin .append, args := #[sl, x], argTypes := #[34, 9] })
    (base : Nat) (v : Value) (l : List UInt8) (hs : a.eval sl = v) (hown : Owns w base v l) (s : ByteArray) (hx : a.eval x = .string s) (hl : l.length + s.size ≤ 100000000000) (hbase : base ≤ w.heap.size)
    (h : ∀ ao cap w', Owns w' base (.slice ao (l.length + s.size) cap) (l ++ s.data.toList) → w.grownBy w' v.ownBlock →
      (∀ k, (Value.slice ao (l.length + s.size) cap).ownBlock = some k → v.ownBlock = some k ∨ w.heap.size ≤ k) → wpList Tryd.prog ops Q rest (a.put o.dst (.slice ao (l.length + s.size) cap)) w') : wpList Tryd.prog ops Q (o :: rest) a w := by
  refine wpList_plain hgd fun K hK => ?_
  obtain ⟨ao, cap, w', hr, h2, h3, h4⟩ := Bo.run_append_str_lies w base v l hown s hl hbase o.type
  unfold Oper.wp execOp
  simp only [ho, resolve, invoke, builtin, Sem.run_bind, Sem.run_pure, Result.andThen_ok, List.map_toArray, List.map_cons, List.map_nil, hs, hx, hr]
  exact hK _ _ (h ao cap w' h2 h3 h4)
set_option maxHeartbeats 4000000 in
theorem endBlock_any {w : World} {base : Nat} {L : TL} {s : TS} (h : BuiltT w base L s) (h1 : s.data.rows.length ≤ 1000000000) (h2 : s.data.foot.length ≤ 1000000000) (h3 : s.data.n < 4294967296) (h4 : Bo.Sound s.index) (h5 : s.index.n ≤ 2000000) (h6 : s.told.length ≤ 10000000000) :
    Calls Tryd.prog 32 #[.pointer (some ⟨L.b, 0, none⟩)] w fun x w' => x = .returned (.string (bmk (Bo.fin s.data))) ∧ GoesT base L w s.endB w' := by
  have HF := Lib.hid (Bo.finish_any h.data (by omega) (by omega) h3)
  have hfl : (bmk (Bo.fin s.data)).size ≤ 2000000004 := by rw [bmk_size, Bo.fin_length]; omega
  have HFL : Hid ((bmk (Bo.fin s.data)).size = (Bo.fin s.data).length) := Lib.hid (bmk_size _)
  have HH := Lib.hid h; have H4 := Lib.hid h4; have H5 := Lib.hid h5; have H6 := Lib.hid h6
  clear h h1 h2 h3 h4 h5 h6
  obtain ⟨ROW, hROW⟩ : ∃ R, R = bmk (Bo.fin s.data) := ⟨_, rfl⟩
  rw [← hROW] at hfl HFL ⊢
  have HROW := Lib.hid hROW; clear hROW
  go_enter Tryd.func32, Tryd.ntmps32
  go_wp2_with fail
  refine HF.out.mono ?_
  rintro e w1 ⟨rfl, hg1⟩
  rw [show (⟨(Bo.fin s.data).toArray⟩ : ByteArray) = ROW from HROW.out.symm]
  have hT1 := HH.out.with_data hg1
  obtain ⟨L1, e1, hb1, ht1, ho1⟩ := hT1
  have hbl : L.b < w1.heap.size := by rw [← e1]; exact heap_lt hb1.box
  obtain ⟨ta, tc, etv⟩ : ∃ a c, L1.tv = .slice a s.told.length c := Bo.row_any hb1.told
  have c17 : w1.cell? ⟨L.b, 17, none⟩ = some (.slice ta s.told.length tc) := by rw [← e1, hb1.cell 17, ← etv]; rfl
  have c18 : w1.cell? ⟨L.b, 18, none⟩ = some (.string s.last) := by rw [← e1, hb1.cell 18]; rfl
  have hw0 : IntKind.u64.wrap (s.told.length : Int) = s.told.length := by have := H6.out; rw [IntKind.wrap_u64]; omega
  have hw9 : IntKind.u64.wrap (ROW.size : Int) = ROW.size := by rw [IntKind.wrap_u64]; omega
  obtain ⟨V, hV⟩ : ∃ V, V = bmk (Nm.row s.told.length ++ Nm.row ROW.size) := ⟨_, rfl⟩
  have hix : s.ix = ⟨s.last, V⟩ := by unfold TS.ix; rw [hV, HFL.out]
  have HADD : Hid (∀ w2, Below w1.heap.size w1 w2 → Calls Tryd.prog 28 #[.pointer (some ⟨L.b, 13, none⟩), .string s.last, .string V] w2 fun e w' => ∃ x, e = .returned (.int .i64 x) ∧ GoesT base L w { s with data := Bo.st0, index := Bo.after s.index s.ix } w') := Lib.hid (fun w2 hb2 => by
    have hb := hb1.below hb2
    have h9 := Bo.add_any hb.index H4.out H5.out s.last V
    rw [show (⟨(seatI L1 { s with data := Bo.st0 }).b, (seatI L1 { s with data := Bo.st0 }).o, none⟩ : Addr) = ⟨L.b, 13, none⟩ by rw [← e1]; rfl] at h9
    refine h9.mono ?_
    rintro e w' ⟨rfl, hg⟩
    refine ⟨_, rfl, ?_⟩
    rw [hix]
    exact GoesT.trans e1 (ht1.below hb2) ho1 (GoesT.after (Below.refl _ _) (hb.with_index hg)))
  have HVV : Hid (∀ W X, SeesU W X [s.told.length, ROW.size] → Calls Tryd.prog 58 #[X] W (Gives (.string V) W)) := Lib.hid (fun W X hx => by
    have := var_any X [s.told.length, ROW.size] W hx (fun i => by
      cases i with
      | zero => show s.told.length < _; have := H6.out; omega
      | succ i => cases i with
        | zero => show ROW.size < _; omega
        | succ i => simp) (by simp)
    rwa [show (⟨(varl [s.told.length, ROW.size]).toArray⟩ : ByteArray) = V by rw [hV]; simp [varl, bmk]] at this)
  have HV1 : Hid (∀ W : World, Calls Tryd.prog 58 #[.slice (some ⟨W.heap.size, 0, none⟩) 2 2] (W.alloc (.cells #[.int .u64 (s.told.length : Int), .int .u64 (ROW.size : Int)] 24)).drew (Gives (.string V) (W.alloc (.cells #[.int .u64 (s.told.length : Int), .int .u64 (ROW.size : Int)] 24)).drew)) := Lib.hid fun W => HVV.out _ _ (seesU_heap2 (heap_alloc_new W _))
  have HV2 : Hid (∀ W : World, Calls Tryd.prog 58 #[.slice (some ⟨W.heap.size, 0, none⟩) 2 2] (W.alloc (.cells #[.int .u64 (s.told.length : Int), .int .u64 (ROW.size : Int)] 24)) (Gives (.string V) (W.alloc (.cells #[.int .u64 (s.told.length : Int), .int .u64 (ROW.size : Int)] 24)))) := Lib.hid fun W => HVV.out _ _ (seesU_heap2 (heap_alloc_new W _))
  have HBL := Lib.hid hbl
  have kk : ∀ o, (w1.alloc o).cell? ⟨L.b, 18, none⟩ = some (.string s.last) := fun o => ((box_below w1 o).cell (p := ⟨L.b, 18, none⟩) hbl).trans c18
  have KK := Lib.hid kk
  have kk0 := kk (.cells #[.int .u64 (s.told.length : Int), .int .u64 (ROW.size : Int)] 24)
  clear hbl hg1 HF kk hV hix HVV etv
  clear hb1 ht1 ho1 e1
  generalize htn : s.told.length = tn at *
  have HTN := Lib.hid htn; clear htn
  go_wp2_with fail
  go_cut [] from 8 to 26 (fun wr => Hid (GoesT base L w { s with data := Bo.st0, index := Bo.after s.index s.ix } wr))
  case first =>
    go_region_law (first
      | (go_simp; go_at_call 58; (with_reducible first | refine (HV1.out _).mono ?_ | refine (HV2.out _).mono ?_); rintro e w2 ⟨rfl, hb2'⟩
         have hbw : Below w1.heap.size w1 w2 := by
           have hb2 := Bo.undrew hb2'
           exact (box_below w1 _).trans (hb2.mono (by rw [World.size_alloc]; omega))
         have k18 : w2.cell? ⟨L.b, 18, none⟩ = some (.string s.last) := (hbw.cell (p := ⟨L.b, 18, none⟩) HBL.out).trans c18)
      | (go_simp; go_at_call 28; refine (HADD.out _ hbw).mono ?_; rintro e w3 ⟨x3, rfl, hg3⟩))
    all_goals
      go_wp2_with fail
      go_meet
      case rel => exact Lib.hid hg3
  case rest =>
    clear c17 c18 HADD HV1 HV2 KK kk0 HBL
    have HG := hcut; clear hcut
    obtain ⟨L2, e2, hb2, ht2, ho2⟩ := HG.out
    obtain ⟨ta2, tc2, etv2⟩ : ∃ a c, L2.tv = .slice a tn c := by rw [← HTN.out]; exact Bo.row_any hb2.told
    have c17 : wc.cell? ⟨L.b, 17, none⟩ = some (.slice ta2 tn tc2) := by rw [← e2, hb2.cell 17, ← etv2]; rfl
    have f17 := hb2.soft 17
    rw [e2] at f17
    have hown : Owns wc base (.slice ta2 tn tc2) s.told := by rw [← etv2]; exact hb2.told
    have hbl : L.b < wc.heap.size := by rw [← e2]; exact heap_lt hb2.box
    have hn1 : (Value.slice ta2 tn tc2).ownBlock ≠ some L.b := by rw [← etv2, ← e2]; exact hb2.box_ne.2.2.2
    have hlow : base ≤ wc.heap.size := by have := hb2.low; rw [e2] at this; omega
    have HOWN := Lib.hid hown; have HBL := Lib.hid hbl; have HN1 := Lib.hid hn1; have HLOW := Lib.hid hlow
    have HTL : Hid (s.told.length + ROW.size ≤ 100000000000) := Lib.hid (by have := H6.out; rw [HTN.out]; omega)
    have HB2 := Lib.hid hb2; have HE2 := Lib.hid e2; have HT2 := Lib.hid ht2; have HO2 := Lib.hid ho2; have HTV := Lib.hid etv2
    have HRL : Hid (ROW.data.toList = Bo.fin s.data) := Lib.hid (by rw [HROW.out]; rfl)
    clear hown hbl hn1 hlow hb2 e2 ht2 ho2 etv2 HG
    go_wp2_with (at_builtin; go_must (refine wpList_append_str (by rfl) _ _ (by rfl) base (.slice ta2 tn tc2) s.told (by rfl) HOWN.out ROW (by rfl) HTL.out HLOW.out ?_))
    intro ao cap w3 hown3 hgrow hlie
    have k3 : w3.cell? ⟨L.b, 17, none⟩ = some (.slice ta2 tn tc2) := (hgrow.cell_far ⟨L.b, 17, none⟩ HBL.out (Ne.symm HN1.out)).trans c17
    have kf3 : w3.frozen? ⟨L.b, 17, none⟩ = false := (hgrow.frozen_far ⟨L.b, 17, none⟩ HBL.out (Ne.symm HN1.out)).trans f17
    have HGG : Hid (GoesT base L w s.endB (w3.setCell ⟨L.b, 17, none⟩ (.slice ao (s.told.length + ROW.size) cap))) := Lib.hid (by
      rw [← HTV.out] at hgrow hlie
      have hg := HB2.out.grow_told hown3 hgrow hlie
      rw [HRL.out, HE2.out] at hg
      exact GoesT.trans HE2.out HT2.out HO2.out hg)
    clear hgrow hlie hown3
    go_wp2_with fail
    go_ret
    exact ⟨rfl, HGG.out⟩
end Go.Proofs.YtphoihkbdogkhaaDoor.Bn.Tw

/- The walk of table's Add. -/
namespace Go.Proofs.YtphoihkbdogkhaaDoor.Bn.Tw
open Go Go.RowKit Go.Proofs.YtphoihkbdogkhaaDoor.Tb
open Go.Proofs.YtphoihkbdogkhaaDoor.Bn.Bo (Turns Seat BL Built GoesB OwnB ownsRow_frame ownsRow_lt ownsRow_obj heap_lt cell_of unfrozen_of obj_cells_ne setCell_kept)
set_option linter.unusedVariables false
set_option maxRecDepth 100000

/-- What an Add answers. -/
def AddV (base : Nat) (L : TL) (w : World) (s : TS) (e : Ent) (x : Ending) (w' : World) : Prop :=
  x = .returned (.tuple #[.string (bmk (piece s e)), .int .i64 (errE s e : Int)]) ∧ GoesT base L w (addS s e) w'
theorem addV_err {base : Nat} {L : TL} {w w' : World} {s : TS} {e : Ent} {n : Nat} (h : BuiltT w base L s) (hn : errE s e = n) (h0 : n ≠ 0) (hb : Below w.heap.size w w') : AddV base L w s e (.returned (.tuple #[.string ⟨#[]⟩, .int .i64 (n : Int)])) w' := by
  obtain ⟨h1, h2⟩ := addS_err (s := s) (e := e) (by omega)
  unfold AddV
  rw [h1, h2, hn]
  exact ⟨rfl, (GoesT.refl h).below hb⟩
theorem add_nil (e : Ent) (w : World) : Calls Tryd.prog 10 #[.pointer none, enV e] w (Gives (.tuple #[.string ⟨#[]⟩, .int .i64 2]) w) := by
  obtain ⟨K, V, q, g⟩ := e
  dsimp only [enV]
  go_enter Tryd.func10, Tryd.ntmps10
  go_wp2_with fail
  go_ret2
  exact ⟨rfl, box_below _ _⟩
section
variable {w : World} {base : Nat} {L : TL} {s : TS}
theorem add_done (h : BuiltT w base L s) (e : Ent) (hd : s.done = true) :
    Calls Tryd.prog 10 #[.pointer (some ⟨L.b, 0, none⟩), enV e] w (AddV base L w s e) := by
  obtain ⟨K, V, q, g⟩ := e
  have HE : Hid (errE s ⟨K, V, q, g⟩ = 9) := Lib.hid (by unfold errE; rw [if_pos hd])
  have c19 : (w.alloc (entX ⟨K, V, q, g⟩)).cell? ⟨L.b, 19, none⟩ = some (.bool true) := by rw [(h.alloc _).cell 19, ← hd]; rfl
  have HH := Lib.hid h
  clear h hd
  dsimp only [enV]
  go_enter Tryd.func10, Tryd.ntmps10
  go_wp2_with fail
  go_ret2
  exact addV_err HH.out HE.out (by decide) (box_below _ _)
theorem add_long (h : BuiltT w base L s) (e : Ent) (hd : s.done = false) (hl : 64 < e.key.size ∨ 512 < e.val.size) :
    Calls Tryd.prog 10 #[.pointer (some ⟨L.b, 0, none⟩), enV e] w (AddV base L w s e) := by
  obtain ⟨K, V, q, g⟩ := e
  have HE : Hid (errE s ⟨K, V, q, g⟩ = 3) := Lib.hid (by unfold errE; rw [if_neg (by rw [hd]; decide), if_pos hl])
  have c19 : (w.alloc (entX ⟨K, V, q, g⟩)).cell? ⟨L.b, 19, none⟩ = some (.bool false) := by rw [(h.alloc _).cell 19, ← hd]; rfl
  have HH := Lib.hid h
  dsimp only at hl
  clear h hd
  dsimp only [enV]
  by_cases h1 : 64 < K.size
  · have h1' : (64 : Int) < K.size := by omega
    clear hl
    go_enter Tryd.func10, Tryd.ntmps10
    go_wp2_with fail
    go_ret2
    exact addV_err HH.out HE.out (by decide) (box_below _ _)
  · have h1' : ¬ (64 : Int) < K.size := by omega
    have h2' : (512 : Int) < V.size := by omega
    clear hl
    go_enter Tryd.func10, Tryd.ntmps10
    go_wp2_with fail
    go_ret2
    exact addV_err HH.out HE.out (by decide) (box_below _ _)
theorem add_may (h : BuiltT w base L s) (e : Ent) (hd : s.done = false) (h1 : e.key.size ≤ 64) (h2 : e.val.size ≤ 512) (hm : Tb.may e = false) :
    Calls Tryd.prog 10 #[.pointer (some ⟨L.b, 0, none⟩), enV e] w (AddV base L w s e) := by
  have HM := Lib.hid (fun W => mayBe_any e W)
  rw [hm] at HM
  obtain ⟨K, V, q, g⟩ := e
  dsimp only at h1 h2
  have HE : Hid (errE s ⟨K, V, q, g⟩ = 1) := Lib.hid (by unfold errE; rw [if_neg (by rw [hd]; decide), if_neg (by dsimp only; omega), if_neg (by rw [hm]; simp)])
  have c19 : (w.alloc (entX ⟨K, V, q, g⟩)).cell? ⟨L.b, 19, none⟩ = some (.bool false) := by rw [(h.alloc _).cell 19, ← hd]; rfl
  have HH := Lib.hid h
  have h1' : ¬ (64 : Int) < K.size := by omega
  have h2' : ¬ (512 : Int) < V.size := by omega
  clear h hd h1 h2 hm
  dsimp only [enV] at HM ⊢
  go_enter Tryd.func10, Tryd.ntmps10
  go_wp2_with fail
  refine (HM.out _).mono ?_
  rintro x w2 ⟨rfl, hb2⟩
  go_wp2_with fail
  go_ret2
  exact addV_err HH.out HE.out (by decide) ((box_below _ _).trans (hb2.mono (by simp)))
theorem add_low (h : BuiltT w base L s) (e : Ent) (hd : s.done = false) (h1 : e.key.size ≤ 64) (h2 : e.val.size ≤ 512) (hm : Tb.may e = true) (hl : less s.last (pl e) = false) (hq : e.seq < 18446744073709551616) :
    Calls Tryd.prog 10 #[.pointer (some ⟨L.b, 0, none⟩), enV e] w (AddV base L w s e) := by
  have HM := Lib.hid (fun W => mayBe_any e W)
  rw [hm] at HM
  have HI := Lib.hid (fun W => internal_any e.key e.seq W (by omega) hq)
  obtain ⟨P, hP⟩ : ∃ P, P = pl e := ⟨_, rfl⟩
  rw [show bmk (Mm.place e.key.data.toList e.seq) = P from hP.symm] at HI
  rw [← hP] at hl
  obtain ⟨K, V, q, g⟩ := e
  dsimp only at h1 h2 hq HI
  have HE : Hid (errE s ⟨K, V, q, g⟩ = 1) := Lib.hid (by unfold errE; rw [if_neg (by rw [hd]; decide), if_neg (by dsimp only; omega), if_neg (by rw [← hP, hl]; simp)])
  have c19 : (w.alloc (entX ⟨K, V, q, g⟩)).cell? ⟨L.b, 19, none⟩ = some (.bool false) := by rw [(h.alloc _).cell 19, ← hd]; rfl
  have HH := Lib.hid h
  have h1' : ¬ (64 : Int) < K.size := by omega
  have h2' : ¬ (512 : Int) < V.size := by omega
  have HL := Lib.hid hl
  clear h hd h1 h2 hm hP hl
  dsimp only [enV] at HM ⊢
  rcases Bo.bl_geq HL.out with hc | ⟨hc, hc2⟩
  all_goals
    go_enter Tryd.func10, Tryd.ntmps10
    go_wp2_with fail
    refine (HM.out _).mono ?_
    rintro x w2 ⟨rfl, hb2⟩
    have hb : Below w.heap.size w w2 := (box_below _ _).trans (hb2.mono (by simp))
    have hx2 : w2.heap[w.heap.size]? = some (entX ⟨K, V, q, g⟩) := (hb2.block _ (by simp)).trans (heap_alloc_new w _)
    have x0 : w2.cell? ⟨w.heap.size, 0, none⟩ = some (.string K) := by rw [cell_of hx2]; rfl
    have x2 : w2.cell? ⟨w.heap.size, 2, none⟩ = some (.int .u64 (q : Int)) := by rw [cell_of hx2]; rfl
    have HB := Lib.hid hb
    clear hx2 hb hb2 c19
    go_wp2_with fail
    refine (HI.out _).mono ?_
    rintro x w3 ⟨rfl, hb3⟩
    have hb := Below.next HB.out hb3
    have c18 : w3.cell? ⟨L.b, 18, none⟩ = some (.string s.last) := by rw [(HH.out.below hb).cell 18]; rfl
    have HB3 := Lib.hid hb
    clear hb hb3 x0 x2
    go_wp2_with fail
    go_ret2
    exact addV_err HH.out HE.out (by decide) HB3.out
end
end Go.Proofs.YtphoihkbdogkhaaDoor.Bn.Tw

/- The walk of table's Add, where the entry is taken. -/
namespace Go.Proofs.YtphoihkbdogkhaaDoor.Bn.Tw
open Go Go.RowKit Go.Proofs.YtphoihkbdogkhaaDoor.Tb
open Go.Proofs.YtphoihkbdogkhaaDoor.Bn.Bo (Turns Seat BL Built GoesB OwnB ownsRow_frame ownsRow_lt ownsRow_obj heap_lt cell_of unfrozen_of obj_cells_ne setCell_kept)
set_option linter.unusedVariables false
set_option maxRecDepth 100000

/-- What a builder holds, within bounds. -/
structure Fits (s : TS) (n : Nat) : Prop where
  d : Bo.Sound s.data
  i : Bo.Sound s.index
  dn : s.data.n ≤ n
  n_ : s.index.n ≤ n
  t : s.told.length ≤ 2000 * n
  c : s.cnt ≤ n
  k : s.keys.length ≤ n
section
variable {w w1 : World} {base : Nat} {L : TL} {s s1 : TS}
theorem GoesT.note_call (hg : GoesT base L w s1 w1) (e : Ent) (hq : e.seq < 18446744073709551616) (hcn : s1.cnt ≤ 1000000000) (hkl : s1.keys.length ≤ 1000000000) (hks : e.key.size ≤ 1000000) :
    Calls Tryd.prog 30 #[.pointer (some ⟨L.b, 0, none⟩), enV e] w1 fun x w' => x = .returned (.tuple #[]) ∧ GoesT base L w (s1.note e) w' := by
  obtain ⟨L', e1, hb, ht, ho⟩ := hg
  have h := note_any hb e hq hcn hkl hks
  rw [e1] at h
  exact h.mono (by rintro x w' ⟨rfl, h⟩; exact ⟨rfl, GoesT.trans e1 ht ho h⟩)
theorem GoesT.endB_call (hg : GoesT base L w s1 w1) (h1 : s1.data.rows.length ≤ 1000000000) (h2 : s1.data.foot.length ≤ 1000000000) (h3 : s1.data.n < 4294967296) (h4 : Bo.Sound s1.index) (h5 : s1.index.n ≤ 2000000) (h6 : s1.told.length ≤ 10000000000) :
    Calls Tryd.prog 32 #[.pointer (some ⟨L.b, 0, none⟩)] w1 fun x w' => x = .returned (.string (bmk (Bo.fin s1.data))) ∧ GoesT base L w s1.endB w' := by
  obtain ⟨L', e1, hb, ht, ho⟩ := hg
  have h := endBlock_any hb h1 h2 h3 h4 h5 h6
  rw [e1] at h
  exact h.mono (by rintro x w' ⟨rfl, h⟩; exact ⟨rfl, GoesT.trans e1 ht ho h⟩)
theorem GoesT.size_call (hg : GoesT base L w s1 w1) (h1 : s1.data.rows.length ≤ 1000000000) (h2 : s1.data.foot.length ≤ 1000000000) :
    Calls Tryd.prog 31 #[.pointer (some ⟨L.b, 9, none⟩)] w1 fun x w' => x = .returned (.int .i64 ((Bo.fin s1.data).length : Int)) ∧ GoesT base L w s1 w' := by
  obtain ⟨L', e1, hb, ht, ho⟩ := hg
  have h := Bo.size_any hb.data (by omega) (by omega)
  rw [show (⟨(seatD L' s1).b, (seatD L' s1).o, none⟩ : Addr) = ⟨L.b, 9, none⟩ by rw [← e1]; rfl] at h
  exact h.mono (by rintro x w' ⟨rfl, h⟩; exact ⟨rfl, L', e1, hb.below h, ht.below h, ho⟩)
theorem GoesT.add_call (hg : GoesT base L w s1 w1) (h1 : Bo.Sound s1.data) (h2 : s1.data.n ≤ 2000000) (k v : ByteArray) :
    Calls Tryd.prog 28 #[.pointer (some ⟨L.b, 9, none⟩), .string k, .string v] w1 fun x w' => ∃ y, x = .returned (.int .i64 y) ∧ GoesT base L w { s1 with data := Bo.after s1.data ⟨k, v⟩ } w' := by
  obtain ⟨L', e1, hb, ht, ho⟩ := hg
  have h := Bo.add_any hb.data h1 h2 k v
  rw [show (⟨(seatD L' s1).b, (seatD L' s1).o, none⟩ : Addr) = ⟨L.b, 9, none⟩ by rw [← e1]; rfl] at h
  exact h.mono (by rintro x w' ⟨rfl, h⟩; exact ⟨_, rfl, GoesT.trans e1 ht ho (hb.with_data h)⟩)
theorem GoesT.far (hg : GoesT base L w s1 w1) {k : Nat} (hk : k < w.heap.size) (hn : ¬ OwnT L k) : w1.heap[k]? = w.heap[k]? := by
  obtain ⟨L', e1, hb, ht, ho⟩ := hg
  exact ht.block k hk hn
set_option maxHeartbeats 4000000 in
theorem add_ok (h : BuiltT w base L s) (e : Ent) (hd : s.done = false) (h1 : e.key.size ≤ 64) (h2 : e.val.size ≤ 512) (hm : Tb.may e = true) (hl : less s.last (pl e) = true) (hq : e.seq < 18446744073709551616) (hf : Fits s 100000) :
    Calls Tryd.prog 10 #[.pointer (some ⟨L.b, 0, none⟩), enV e] w (AddV base L w s e) := by
  have HM := Lib.hid (fun W => mayBe_any e W)
  rw [hm] at HM
  have HI := Lib.hid (fun W => internal_any e.key e.seq W (by omega) hq)
  have HVR := Lib.hid (fun W => valueRow_any e W (by omega))
  have HN := Lib.hid (fun (W : World) (s' : TS) (w0 : World) (h' : GoesT base L w0 s' W) (ha : s'.cnt ≤ 1000000000) (hb : s'.keys.length ≤ 1000000000) => GoesT.note_call h' e hq ha hb (by omega))
  have HEZ : Hid (errE s e = 0) := Lib.hid (by unfold errE; rw [if_neg (by rw [hd]; decide), if_neg (by omega), if_pos ⟨hm, hl⟩])
  obtain ⟨P, hP⟩ : ∃ P, P = pl e := ⟨_, rfl⟩
  obtain ⟨VR, hVR⟩ : ∃ VR, VR = vr e := ⟨_, rfl⟩
  rw [show bmk (Mm.place e.key.data.toList e.seq) = P from hP.symm] at HI
  rw [← hVR] at HVR
  rw [← hP] at hl
  have HEN : Hid (enOf e = ⟨P, VR⟩) := Lib.hid (by rw [hP, hVR]; rfl)
  have HPP := Lib.hid hP
  obtain ⟨K, V, q, g⟩ := e
  dsimp only at h1 h2 hq HI
  have c19 : (w.alloc (entX ⟨K, V, q, g⟩)).cell? ⟨L.b, 19, none⟩ = some (.bool false) := by rw [(h.alloc _).cell 19, ← hd]; rfl
  have HH := Lib.hid h
  have HBL := Lib.hid (heap_lt h.box)
  have h1' : ¬ (64 : Int) < K.size := by omega
  have h2' : ¬ (512 : Int) < V.size := by omega
  have HF := Lib.hid hf
  obtain ⟨hc, hc2⟩ := Bo.bl_leq hl
  clear h hd h1 h2 hm hP hl hVR hf
  dsimp only [enV] at HM HVR HN ⊢
  go_enter Tryd.func10, Tryd.ntmps10
  go_wp2_with fail
  refine (HM.out _).mono ?_
  rintro x w2 ⟨rfl, hb2⟩
  have hb : Below w.heap.size w w2 := (box_below _ _).trans (hb2.mono (by simp))
  have hx2 : w2.heap[w.heap.size]? = some (entX ⟨K, V, q, g⟩) := (hb2.block _ (by simp)).trans (heap_alloc_new w _)
  have x0 : w2.cell? ⟨w.heap.size, 0, none⟩ = some (.string K) := by rw [cell_of hx2]; rfl
  have x2 : w2.cell? ⟨w.heap.size, 2, none⟩ = some (.int .u64 (q : Int)) := by rw [cell_of hx2]; rfl
  have HB := Lib.hid hb; have HX2 := Lib.hid hx2
  clear hx2 hb hb2 c19
  go_wp2_with fail
  refine (HI.out _).mono ?_
  rintro x w3 ⟨rfl, hb3⟩
  have hb := Below.next HB.out hb3
  have c18 : w3.cell? ⟨L.b, 18, none⟩ = some (.string s.last) := by rw [(HH.out.below hb).cell 18]; rfl
  have hx3 : w3.heap[w.heap.size]? = some (entX ⟨K, V, q, g⟩) := (hb3.block _ (heap_lt HX2.out)).trans HX2.out
  have y0 : w3.cell? ⟨w.heap.size, 0, none⟩ = some (.string K) := by rw [cell_of hx3]; rfl
  have y1 : w3.cell? ⟨w.heap.size, 1, none⟩ = some (.string V) := by rw [cell_of hx3]; rfl
  have y2 : w3.cell? ⟨w.heap.size, 2, none⟩ = some (.int .u64 (q : Int)) := by rw [cell_of hx3]; rfl
  have y3 : w3.cell? ⟨w.heap.size, 3, none⟩ = some (.bool g) := by rw [cell_of hx3]; rfl
  have HB3 := Lib.hid hb; have HX3 := Lib.hid hx3
  clear hb hb3 x0 x2 hx3 HX2 HB
  go_wp2_with fail
  have hh3 := HH.out.below HB3.out
  have HNO : Hid (¬ OwnT L w.heap.size) := Lib.hid (fun hk => by have := HH.out.own_lt hk; omega)
  have HLT3 : Hid (w.heap.size < w3.heap.size) := Lib.hid (heap_lt HX3.out)
  have HG0 := Lib.hid (GoesT.refl hh3)
  obtain ⟨sA, hsA⟩ : ∃ sA, sA = ({ s with data := Bo.after s.data ⟨P, VR⟩ } : TS) := ⟨_, rfl⟩
  have HADD : Hid (∀ W, Below w3.heap.size w3 W → Calls Tryd.prog 28 #[.pointer (some ⟨L.b, 9, none⟩), .string P, .string VR] W fun x w' => ∃ y, x = .returned (.int .i64 y) ∧ GoesT base L w3 sA w') := Lib.hid (fun W hW => by
    rw [hsA]
    exact (HG0.out.below hW).add_call HF.out.d (by have := HF.out.dn; show s.data.n ≤ _; omega) P VR)
  have HSA := Lib.hid hsA
  clear hh3 hsA c18 y0 hc hc2
  go_cut [] from 41 to 47 (fun wr => Hid (GoesT base L w3 sA wr))
  case first =>
    have z0 : w3.cell? ⟨w.heap.size, 0, none⟩ = some (.string K) := by rw [cell_of HX3.out]; rfl
    go_region_law (first
      | (go_simp; go_at_call 29; refine (HVR.out _).mono ?_; rintro x w4 ⟨rfl, hb4'⟩
         have hb4 := Bo.undrew hb4')
      | (go_simp; go_at_call 28; refine (HADD.out _ hb4).mono ?_; rintro x w5 ⟨y5, rfl, hg5⟩))
    all_goals
      go_wp2_with fail
      go_meet
      case rel => exact Lib.hid hg5
  case rest =>
    have HG := hcut; clear hcut HADD HG0 y1 y2 y3
    have c18 := HG.out.cell 18 (fun _ => rfl)
    have f18 := HG.out.soft 18
    obtain ⟨w5, hw5⟩ : ∃ w5, w5 = wc.setCell ⟨L.b, 18, none⟩ (.string P) := ⟨_, rfl⟩
    have hg5 : GoesT base L w3 { sA with last := P } w5 := by
      rw [hw5]
      exact HG.out.put 18 _ (fun _ => rfl) rfl ⟨rfl, rfl⟩ ⟨rfl, rfl⟩ rfl
    have hx5 : w5.heap[w.heap.size]? = some (entX ⟨K, V, q, g⟩) := (hg5.far HLT3.out HNO.out).trans HX3.out
    have z0 : (wc.setCell ⟨L.b, 18, none⟩ (.string P)).cell? ⟨w.heap.size, 0, none⟩ = some (.string K) := by rw [← hw5, cell_of hx5]; rfl
    have z1 : (wc.setCell ⟨L.b, 18, none⟩ (.string P)).cell? ⟨w.heap.size, 1, none⟩ = some (.string V) := by rw [← hw5, cell_of hx5]; rfl
    have z2 : (wc.setCell ⟨L.b, 18, none⟩ (.string P)).cell? ⟨w.heap.size, 2, none⟩ = some (.int .u64 (q : Int)) := by rw [← hw5, cell_of hx5]; rfl
    have z3 : (wc.setCell ⟨L.b, 18, none⟩ (.string P)).cell? ⟨w.heap.size, 3, none⟩ = some (.bool g) := by rw [← hw5, cell_of hx5]; rfl
    have HPUT : Hid (({ sA with last := P } : TS).note ⟨K, V, q, g⟩ = s.put ⟨K, V, q, g⟩) := Lib.hid (by
      unfold TS.put
      rw [HEN.out, HSA.out, HPP.out])
    have hsnd : Bo.Sound (s.put ⟨K, V, q, g⟩).data := by
      show Bo.Sound (Bo.after s.data _)
      exact HF.out.d.after _
    have hnn : (s.put ⟨K, V, q, g⟩).data.n ≤ 100001 := by
      show (Bo.after s.data _).n ≤ _
      have := Bo.after_n s.data (enOf ⟨K, V, q, g⟩)
      have := HF.out.dn
      omega
    have HR1 : Hid ((s.put ⟨K, V, q, g⟩).data.rows.length ≤ 1000000000) := Lib.hid (by have := hsnd.rows; omega)
    have HR2 : Hid ((s.put ⟨K, V, q, g⟩).data.foot.length ≤ 1000000000) := Lib.hid (by have := hsnd.foot; omega)
    have HR3 : Hid ((s.put ⟨K, V, q, g⟩).data.n < 4294967296) := Lib.hid (by omega)
    clear hsnd hnn
    have HN5 := Lib.hid (HN.out w5 _ w3 hg5 (by rw [HSA.out]; have := HF.out.c; show s.cnt ≤ _; omega) (by rw [HSA.out]; have := HF.out.k; show s.keys.length ≤ _; omega))
    rw [HPUT.out] at HN5
    have HFAR : Hid (∀ w6, GoesT base L w3 (s.put ⟨K, V, q, g⟩) w6 → GoesT base L w (s.put ⟨K, V, q, g⟩) w6) := Lib.hid (fun w6 h6 => GoesT.after HB3.out h6)
    clear hg5 hx5 HG HN HPUT HSA HX3 HNO HLT3
    go_wp2_with fail
    rw [← hw5]
    clear hw5 c18 f18
    refine HN5.out.mono ?_
    rintro x w6 ⟨rfl, hg6⟩
    have HG6 := Lib.hid (HFAR.out _ hg6)
    clear hg6 z0 z1 z2 z3 HN5 HFAR
    go_wp2_with fail
    refine (HG6.out.size_call HR1.out HR2.out).mono ?_
    rintro x w7 ⟨rfl, hg7⟩
    have HG7 := Lib.hid hg7
    clear hg7 HG6
    by_cases hz : 256 ≤ (Bo.fin (s.put ⟨K, V, q, g⟩).data).length
    · have hz' : ¬ ((Bo.fin (s.put ⟨K, V, q, g⟩).data).length : Int) < 256 := by omega
      have HZ := Lib.hid hz
      clear hz
      generalize hfl : (Bo.fin (s.put ⟨K, V, q, g⟩).data).length = fl at *
      have HFL := Lib.hid hfl; clear hfl
      go_wp2_with fail
      refine (HG7.out.endB_call HR1.out HR2.out HR3.out HF.out.i (by have := HF.out.n_; show s.index.n ≤ _; omega) (by have := HF.out.t; show s.told.length ≤ _; omega)).mono ?_
      rintro x w8 ⟨rfl, hg8⟩
      go_wp2_with fail
      go_ret2
      refine ⟨?_, ?_⟩
      · unfold piece
        rw [if_neg (by rw [HEZ.out]; simp), if_pos (by rw [HFL.out]; exact HZ.out), HEZ.out]
        rfl
      · unfold addS
        rw [if_neg (by rw [HEZ.out]; simp), if_pos (by rw [HFL.out]; exact HZ.out)]
        exact hg8
    · have hz' : ((Bo.fin (s.put ⟨K, V, q, g⟩).data).length : Int) < 256 := by omega
      have HZ := Lib.hid hz
      clear hz
      generalize hfl : (Bo.fin (s.put ⟨K, V, q, g⟩).data).length = fl at *
      have HFL := Lib.hid hfl; clear hfl
      go_wp2_with fail
      go_ret2
      refine ⟨?_, ?_⟩
      · unfold piece
        rw [if_neg (by rw [HEZ.out]; simp), if_neg (by rw [HFL.out]; exact HZ.out), HEZ.out]
        rfl
      · unfold addS
        rw [if_neg (by rw [HEZ.out]; simp), if_neg (by rw [HFL.out]; exact HZ.out)]
        exact HG7.out
/-- Add, of any entry. -/
theorem add_any (h : BuiltT w base L s) (e : Ent) (hq : e.seq < 18446744073709551616) (hf : Fits s 100000) :
    Calls Tryd.prog 10 #[.pointer (some ⟨L.b, 0, none⟩), enV e] w (AddV base L w s e) := by
  cases hd : s.done with
  | true => exact add_done h e hd
  | false =>
    by_cases hl : 64 < e.key.size ∨ 512 < e.val.size
    · exact add_long h e hd hl
    · cases hm : Tb.may e with
      | false => exact add_may h e hd (by omega) (by omega) hm
      | true =>
        cases hls : less s.last (pl e) with
        | false => exact add_low h e hd (by omega) (by omega) hm hls hq
        | true => exact add_ok h e hd (by omega) (by omega) hm hls hq hf
end
end Go.Proofs.YtphoihkbdogkhaaDoor.Bn.Tw

/- The walk of table's endTable. -/
namespace Go.Proofs.YtphoihkbdogkhaaDoor.Bn.Tw
open Go Go.RowKit Go.Proofs.YtphoihkbdogkhaaDoor.Tb
open Go.Proofs.YtphoihkbdogkhaaDoor.Bn.Bo (Turns Seat BL Built GoesB OwnB ownsRow_frame ownsRow_lt ownsRow_obj heap_lt cell_of unfrozen_of obj_cells_ne setCell_kept)
set_option linter.unusedVariables false
set_option maxRecDepth 100000

section
variable {w w1 : World} {base : Nat} {L : TL} {s s1 : TS}
theorem GoesT.count_call (hg : GoesT base L w s1 w1) :
    Calls Tryd.prog 49 #[.pointer (some ⟨L.b, 9, none⟩)] w1 fun x w' => x = .returned (.int .i64 (s1.data.n : Int)) ∧ w' = w1 := by
  obtain ⟨L', e1, hb, ht, ho⟩ := hg
  have h := Bo.count_any hb.data
  rw [show (⟨(seatD L' s1).b, (seatD L' s1).o, none⟩ : Addr) = ⟨L.b, 9, none⟩ by rw [← e1]; rfl] at h
  exact h
theorem GoesT.ifin_call (hg : GoesT base L w s1 w1) (h1 : s1.index.rows.length ≤ 1000000000) (h2 : s1.index.foot.length ≤ 1000000000) (h3 : s1.index.n < 4294967296) :
    Calls Tryd.prog 51 #[.pointer (some ⟨L.b, 13, none⟩)] w1 fun x w' => x = .returned (.string (bmk (Bo.fin s1.index))) ∧ GoesT base L w { s1 with index := Bo.st0 } w' := by
  obtain ⟨L', e1, hb, ht, ho⟩ := hg
  have h := Bo.finish_any hb.index (by omega) (by omega) h3
  rw [show (⟨(seatI L' s1).b, (seatI L' s1).o, none⟩ : Addr) = ⟨L.b, 13, none⟩ by rw [← e1]; rfl] at h
  exact h.mono (by rintro x w' ⟨rfl, h⟩; exact ⟨rfl, GoesT.trans e1 ht ho (hb.with_index h)⟩)
/-- The table of the sums stays. -/
theorem GoesT.tab (hg : GoesT base L w s1 w1) (h : BuiltT w base L s) (hT : Tab w) (hB : 0 < base) : Tab w1 := by
  have hb := hg.to_below h
  exact fun i hi => (hb.cell (p := ⟨0, i, none⟩) hB).trans (hT i hi)
/-- How the pieces lie, and what comes of appending to them. -/
structure ToldAt (base : Nat) (L : TL) (w : World) (s1 : TS) (wc : World) (a : Option Addr) (n c : Nat) : Prop where
  c17 : wc.cell? ⟨L.b, 17, none⟩ = some (.slice a n c)
  f17 : wc.frozen? ⟨L.b, 17, none⟩ = false
  own : Owns wc base (.slice a n c) s1.told
  lt : L.b < wc.heap.size
  ne : (Value.slice a n c).ownBlock ≠ some L.b
  low : base ≤ wc.heap.size
  len : s1.told.length = n
  goes : GoesT base L w s1 wc
  grow : ∀ w2, Below wc.heap.size wc w2 → ∀ w3 v l, Owns w3 base v l → w2.grownBy w3 (Value.slice a n c).ownBlock → (∀ k, v.ownBlock = some k → (Value.slice a n c).ownBlock = some k ∨ w2.heap.size ≤ k) → GoesT base L w { s1 with told := l } (w3.setCell ⟨L.b, 17, none⟩ v)
theorem ToldAt.of {L' : TL} (e1 : L'.b = L.b) (hb : BuiltT w1 base L' s1) (ht : Turns (OwnT L) w w1) (ho : ∀ k, OwnT L' k → OwnT L k ∨ w.heap.size ≤ k) {a : Option Addr} {n c : Nat} (e : L'.tv = .slice a n c) : ToldAt base L w s1 w1 a n c := by
  have hn : s1.told.length = n := by
    obtain ⟨a2, c2, e2⟩ : ∃ a c, L'.tv = .slice a s1.told.length c := Bo.row_any hb.told
    rw [e] at e2
    simp only [Value.slice.injEq] at e2
    exact e2.2.1.symm
  refine ⟨?_, ?_, ?_, ?_, ?_, ?_, hn, ⟨L', e1, hb, ht, ho⟩, ?_⟩
  · rw [← e1, hb.cell 17, ← e]; rfl
  · rw [← e1]; exact hb.soft 17
  · rw [← e]; exact hb.told
  · rw [← e1]; exact heap_lt hb.box
  · rw [← e, ← e1]; exact hb.box_ne.2.2.2
  · exact Nat.le_of_lt (Nat.lt_of_le_of_lt hb.low (heap_lt hb.box))
  · intro w2 h2 w3 v l hown hgr hlie
    rw [← e] at hgr hlie
    have := (hb.below h2).grow_told hown hgr hlie
    rw [e1] at this
    exact GoesT.trans e1 (ht.below h2) ho this
theorem ToldAt.below {w2 : World} {a : Option Addr} {n c : Nat} (h : ToldAt base L w s1 w1 a n c) (hb : Below w1.heap.size w1 w2) : ToldAt base L w s1 w2 a n c :=
  ⟨(hb.cell (p := ⟨L.b, 17, none⟩) h.lt).trans h.c17, (hb.frozen (p := ⟨L.b, 17, none⟩) h.lt).trans h.f17, Bo.ownsRow_below h.own hb, Nat.lt_of_lt_of_le h.lt hb.size, h.ne, Nat.le_trans h.low hb.size, h.len, h.goes.below hb, fun w3 h3 => h.grow w3 (hb.trans (h3.mono hb.size))⟩
theorem GoesT.told_at (hg : GoesT base L w s1 w1) : ∃ a c, ToldAt base L w s1 w1 a s1.told.length c := by
  obtain ⟨L', e1, hb, ht, ho⟩ := hg
  obtain ⟨a, c, e⟩ : ∃ a c, L'.tv = .slice a s1.told.length c := Bo.row_any hb.told
  exact ⟨a, c, ToldAt.of e1 hb ht ho e⟩
/-- The index's end moves the pieces nowhere. -/
theorem GoesT.told_ifin (hg : GoesT base L w s1 w1) (h1 : s1.index.rows.length ≤ 1000000000) (h2 : s1.index.foot.length ≤ 1000000000) (h3 : s1.index.n < 4294967296) :
    ∃ a c, ToldAt base L w s1 w1 a s1.told.length c ∧ ∀ W, Below w1.heap.size w1 W → Calls Tryd.prog 51 #[.pointer (some ⟨L.b, 13, none⟩)] W fun x w' => x = .returned (.string (bmk (Bo.fin s1.index))) ∧ ToldAt base L w { s1 with index := Bo.st0 } w' a s1.told.length c := by
  obtain ⟨L', e1, hb, ht, ho⟩ := hg
  obtain ⟨a, c, e⟩ : ∃ a c, L'.tv = .slice a s1.told.length c := Bo.row_any hb.told
  refine ⟨a, c, ToldAt.of e1 hb ht ho e, fun W hW => ?_⟩
  have hbW := hb.below hW
  have h := Bo.finish_any hbW.index (by omega) (by omega) h3
  rw [show (⟨(seatI L' s1).b, (seatI L' s1).o, none⟩ : Addr) = ⟨L.b, 13, none⟩ by rw [← e1]; rfl] at h
  refine h.mono ?_
  rintro x w' ⟨rfl, hgB⟩
  refine ⟨rfl, ?_⟩
  obtain ⟨L2, e2, hb2, ht2, ho2⟩ := hbW.with_index hgB
  have etv : L2.tv = .slice a s1.told.length c := by
    obtain ⟨⟨se, rv, fv⟩, e3, hb3, _, _⟩ := hgB
    dsimp only at e3
    subst e3
    have h4 : w'.cell? ⟨L'.b, 17, none⟩ = some L'.tv := by
      rw [cell_of (show w'.heap[L'.b]? = some (.cells (cellsT { L' with irv := rv, ifv := fv } { s1 with index := Bo.st0 }) 66 (0, 0)) from hb3.box)]
      rfl
    have h5 := hb2.cell 17
    rw [e2, h4] at h5
    rw [← e]
    exact (Option.some.inj h5).symm
  have hg := GoesT.trans e1 (ht.below hW) ho (⟨L2, e2, hb2, ht2, ho2⟩ : GoesT base L' W _ w')
  exact ToldAt.of (e2.trans e1) hb2 ((ht.below hW).trans ht2 ho) (fun k hk => by
    rcases ho2 k hk with h6 | h6
    · exact ho k h6
    · exact Or.inr (Nat.le_trans (ht.below hW).size h6)) etv
/-- How the keys lie. -/
theorem GoesT.keys_at (hg : GoesT base L w s1 w1) : ∃ a c, w1.cell? ⟨L.b, 8, none⟩ = some (.slice a s1.keys.length c) ∧ OwnsS w1 base (.slice a s1.keys.length c) s1.keys := by
  obtain ⟨L', e1, hb, ht, ho⟩ := hg
  obtain ⟨a, c, e⟩ : ∃ a c, L'.kv = .slice a s1.keys.length c := Bo.row_any hb.keys
  refine ⟨a, c, ?_, ?_⟩
  · rw [← e1, hb.cell 8, ← e]; rfl
  · rw [← e]; exact hb.keys
end

theorem lst_parts (s : TS) : s.lst.keys = s.keys ∧ s.lst.cnt = s.cnt := by unfold TS.lst; split <;> exact ⟨rfl, rfl⟩
theorem fits_lst {s : TS} {n : Nat} (hf : Fits s n) (hn : n ≤ 1000000) : Bo.Sound s.lst.index ∧ s.lst.index.n ≤ n + 1 ∧ s.lst.told.length ≤ 5000 * n + 20 := by
  have h1 := hf.d.rows
  have h2 := hf.d.foot
  have h3 := hf.dn
  have h4 := hf.t
  have h5 := Bo.fin_length s.data
  have h6 := hf.n_
  unfold TS.lst
  split
  · refine ⟨hf.i.after _, ?_, ?_⟩
    · have := Bo.after_n s.index s.ix
      show (Bo.after s.index s.ix).n ≤ _
      omega
    · show (s.told ++ Bo.fin s.data).length ≤ _
      rw [List.length_append]
      omega
  · exact ⟨hf.i, by omega, by omega⟩
set_option maxHeartbeats 8000000 in
theorem endTable_any {w : World} {base : Nat} {L : TL} {s : TS} (h : BuiltT w base L s) (hT : Tab w) (hB : 0 < base) (hf : Fits s 100001) (hks : ∀ k ∈ s.keys, k.size ≤ 1000000) :
    Calls Tryd.prog 25 #[.pointer (some ⟨L.b, 0, none⟩)] w fun x w' => x = .returned (.tuple #[]) ∧ GoesT base L w { s.lst with index := Bo.st0, told := s.t5 } w' := by
  have HG0 := Lib.hid (GoesT.refl h)
  have HH := Lib.hid h; have HT := Lib.hid hT; have HB := Lib.hid hB; have HF := Lib.hid hf; have HKS := Lib.hid hks
  have HCN := Lib.hid (GoesT.refl h).count_call
  have HFL := Lib.hid (fits_lst hf (by omega))
  clear h hT hB hf hks
  by_cases h0 : 0 < s.data.n
  · have h0' : (0 : Int) < s.data.n := by omega
    have HL : Hid (s.lst = s.endB) := Lib.hid (by unfold TS.lst; rw [if_pos h0])
    clear h0
    go_enter Tryd.func25, Tryd.ntmps25
    go_wp2_with fail
    refine HCN.out.mono ?_
    rintro e w1 ⟨rfl, hw1⟩
    have HG1 : Hid (GoesT base L w s w1) := Lib.hid (by rw [hw1]; exact HG0.out)
    clear hw1
    go_wp2_with fail
    refine (HG1.out.endB_call (by have := HF.out.d.rows; have := HF.out.dn; omega) (by have := HF.out.d.foot; have := HF.out.dn; omega) (by have := HF.out.dn; omega) HF.out.i (by have := HF.out.n_; omega) (by have := HF.out.t; omega)).mono ?_
    rintro e w2 ⟨rfl, hg2⟩
    rw [← HL.out] at hg2
    clear h0' HG1
    have HG2 := Lib.hid hg2
    clear HCN HG0 HL hg2
    obtain ⟨X2, hX2⟩ : ∃ X, X = bmk (Bl.mk (kls s.keys)) := ⟨_, rfl⟩
    have hsz2 := mk_le s.keys
    have HSZ : Hid (s.lst.told.length + X2.size ≤ 100000000000) := Lib.hid (by rw [hX2, bmk_size]; have := HFL.out.2.2; have := HF.out.k; omega)
    have HT2 : Hid (s.lst.told ++ X2.data.toList = s.t2) := Lib.hid (by rw [hX2]; rfl)
    have HZ2 : Hid (s.t2.length ≤ 600000000) := Lib.hid (by unfold TS.t2; rw [List.length_append]; have := HFL.out.2.2; have := HF.out.k; omega)
    have HNK := Lib.hid (lst_parts s)
    have HE3 : Hid (s.t3 = s.t2 ++ Bo.fin s.lst.index) := Lib.hid rfl
    have HE4 : Hid (s.t4 = s.t3 ++ foot s.lst.told.length s.t2.length s.cnt) := Lib.hid rfl
    have HE5 : Hid (s.t5 = s.t4 ++ Nm.big (Cr.crc s.t4) 4) := Lib.hid rfl
    obtain ⟨ta, tc, hT2⟩ := HG2.out.told_at
    obtain ⟨ka, kc, k8, hK⟩ := HG2.out.keys_at
    have HMK : Hid (∀ W, Below w2.heap.size w2 W → Calls Tryd.prog 50 #[.slice ka s.lst.keys.length kc] W (fun x w' => x = .returned (.string X2) ∧ Below W.heap.size W w')) := Lib.hid (fun W hW => by
      have h1 := make_any ka s.lst.keys.length kc s.lst.keys W (hK.sees.below hW) (by rw [HNK.out.1]; intro x hx; have := HKS.out x hx; omega) (by rw [HNK.out.1]; have := HF.out.k; omega)
      rw [hX2, ← HNK.out.1]
      exact h1)
    obtain ⟨S2, hS2⟩ : ∃ S, S = s.lst := ⟨_, rfl⟩
    rw [← hS2] at HG2 HSZ HT2 HNK HE3 HE4 hT2 k8 hK HMK HFL
    have HS2 := Lib.hid hS2
    have c17 := hT2.c17
    have HTT := Lib.hid hT2
    clear hS2 hX2 hsz2 hK hT2
    generalize htn : S2.told.length = tn at *
    have HTN := Lib.hid htn; clear htn
    generalize S2.keys.length = kn at *
    go_wp2_with fail
    go_cut [] from 19 to 31 (fun wr => Hid (GoesT base L w { S2 with told := s.t2 } wr))
    case first =>
      go_region_law (first
        | (go_simp; go_at_call 50; refine (HMK.out _ (by first | exact Below.refl _ _ | exact (Below.refl _ _).drew)).mono ?_; rintro x w3' ⟨rfl, hb3'⟩
           have hT2 := HTT.out.below (by first | exact Bo.undrew hb3' | exact hb3')
           have k17 := hT2.c17)
        | (refine Bo.step_append_str (by rfl) _ _ (by rfl) base (.slice ta tn tc) S2.told (by rfl) hT2.own X2 (by rfl) (by rw [HTN.out]; exact HSZ.out) hT2.low ?_
           intro ao cap w3 hown3 hgrow hlie
           have k3 : w3.cell? ⟨L.b, 17, none⟩ = some (.slice ta tn tc) := (hgrow.cell_far ⟨L.b, 17, none⟩ hT2.lt (Ne.symm hT2.ne)).trans hT2.c17
           have kf3 : w3.frozen? ⟨L.b, 17, none⟩ = false := (hgrow.frozen_far ⟨L.b, 17, none⟩ hT2.lt (Ne.symm hT2.ne)).trans hT2.f17))
      all_goals
        go_wp2_with fail
        go_meet
        case rel => exact Lib.hid (by
          have hg := hT2.grow _ (Below.refl _ _) _ _ _ hown3 hgrow hlie
          rw [HT2.out] at hg
          exact hg)
    case rest =>
      have HG3 := hcut; clear hcut HMK c17 k8 HTT HSZ
      obtain ⟨S3, hS3⟩ : ∃ S, S = ({ S2 with told := s.t2 } : TS) := ⟨_, rfl⟩
      rw [← hS3] at HG3
      obtain ⟨X3, hX3⟩ : ∃ X, X = bmk (Bo.fin S3.index) := ⟨_, rfl⟩
      have hi3 : S3.index = S2.index := by rw [hS3]
      have ht3 : S3.told = s.t2 := by rw [hS3]
      have hfin3 := Bo.fin_length S2.index
      have hr3 : S2.index.rows.length ≤ 300000000 := by have := HFL.out.1.rows; have := HFL.out.2.1; omega
      have hf3 : S2.index.foot.length ≤ 300000000 := by have := HFL.out.1.foot; have := HFL.out.2.1; omega
      have HSZ : Hid (S3.told.length + X3.size ≤ 100000000000) := Lib.hid (by rw [hX3, bmk_size, hi3, ht3]; have := HZ2.out; omega)
      have HZ3 : Hid (s.t3.length ≤ 1300000000) := Lib.hid (by rw [HE3.out, List.length_append]; have := HZ2.out; omega)
      have HT3 : Hid (S3.told ++ X3.data.toList = s.t3) := Lib.hid (by rw [ht3, hX3, hi3, HE3.out]; rfl)
      obtain ⟨ta3, tc3, hT3, hIF⟩ := HG3.out.told_ifin (by rw [hi3]; omega) (by rw [hi3]; omega) (by rw [hi3]; have := HFL.out.2.1; omega)
      rw [← hX3] at hIF
      have c17 := hT3.c17
      have HIF := Lib.hid hIF; have HS3 := Lib.hid hS3; have HTOLD3 := Lib.hid ht3
      clear hS3 hX3 hi3 ht3 hfin3 hr3 hf3 hT3 hIF
      generalize htn3 : S3.told.length = tn3 at *
      have HTN3 := Lib.hid htn3; clear htn3
      go_wp2_with fail
      go_cut [] from 37 to 48 (fun wr => Hid (GoesT base L w { S3 with index := Bo.st0, told := s.t3 } wr))
      case first =>
        go_region_law (first
          | (go_simp; go_at_call 51; refine (HIF.out _ (by first | exact Below.refl _ _ | exact (Below.refl _ _).drew)).mono ?_; rintro x w4' ⟨rfl, hT2⟩
             have k17 := hT2.c17)
          | (refine Bo.step_append_str (by rfl) _ _ (by rfl) base (.slice ta3 tn3 tc3) S3.told (by rfl) hT2.own X3 (by rfl) (by rw [HTN3.out]; exact HSZ.out) hT2.low ?_
             intro ao cap w3 hown3 hgrow hlie
             have k3 : w3.cell? ⟨L.b, 17, none⟩ = some (.slice ta3 tn3 tc3) := (hgrow.cell_far ⟨L.b, 17, none⟩ hT2.lt (Ne.symm hT2.ne)).trans hT2.c17
             have kf3 : w3.frozen? ⟨L.b, 17, none⟩ = false := (hgrow.frozen_far ⟨L.b, 17, none⟩ hT2.lt (Ne.symm hT2.ne)).trans hT2.f17))
        all_goals
          go_wp2_with fail
          go_meet
          case rel => exact Lib.hid (by
            have hg := hT2.grow _ (Below.refl _ _) _ _ _ hown3 hgrow hlie
            rw [HT3.out] at hg
            exact hg)
      case rest =>
        have HG4 := hcut; clear hcut HIF c17 HSZ
        have HTL : Hid (S3.told = s.t2) := HTOLD3
        obtain ⟨S4, hS4⟩ : ∃ S, S = ({ S3 with index := Bo.st0, told := s.t3 } : TS) := ⟨_, rfl⟩
        rw [← hS4] at HG4
        have hc4 : S4.cnt = s.cnt := by rw [hS4, HS3.out]; exact HNK.out.2
        have c2 : wc.cell? ⟨L.b, 2, none⟩ = some (.int .i64 (s.cnt : Int)) := by rw [← hc4]; exact HG4.out.cell 2 (fun _ => rfl)
        have HTOLD4 : Hid (S4.told = s.t3) := Lib.hid (by rw [hS4])
        have HS4 := Lib.hid hS4
        clear hS4 hc4
        obtain ⟨cn, hcn⟩ : ∃ cn, cn = s.cnt := ⟨_, rfl⟩
        rw [← hcn] at c2 HE4
        have hcnt : cn ≤ 200000 := by have := HF.out.c; omega
        have HCNT := Lib.hid hcnt
        have HCN := Lib.hid hcn
        clear hcn hcnt
        obtain ⟨FF, hFF⟩ : ∃ FF : Nat → List UInt8, FF = fun k => s.t3 ++ (([tn, tn3, cn].take k).flatMap fun m => Nm.big m 4) := ⟨_, rfl⟩
        have HF0 : Hid (FF 0 = s.t3) := Lib.hid (by rw [hFF]; simp)
        have HF3 : Hid (FF 3 = s.t4) := Lib.hid (by rw [hFF, HE4.out, ← HTL.out, HTN3.out]; simp [foot])
        have HFS : Hid (∀ k, k < 3 → FF (k + 1) = FF k ++ Nm.big ([tn, tn3, cn].getD k 0) 4) := Lib.hid (fun k hk => by
          rw [hFF]
          match k, hk with
          | 0, _ => simp
          | 1, _ => simp
          | 2, _ => simp)
        have HFL3 : Hid (∀ k, (FF k).length ≤ 1300000012) := Lib.hid (fun k => by
          rw [hFF]
          have h1 := HZ3.out
          match k with
          | 0 => simp; omega
          | 1 => simp [Nm.big_length]; omega
          | 2 => simp [Nm.big_length]; omega
          | k + 3 => simp [Nm.big_length]; omega)
        have HNB : Hid (∀ k, [tn, tn3, cn].getD k 0 < 4294967296) := Lib.hid (fun k => by
          match k with
          | 0 => show tn < _; have := HFL.out.2.2; omega
          | 1 => show tn3 < _; rw [← HTN3.out, HTL.out]; have := HZ2.out; omega
          | 2 => show cn < _; have := HCNT.out; omega
          | k + 3 => simp)
        have HNS : Hid (∀ k, k < 3 → #[Value.int .i64 (tn : Int), .int .i64 (tn3 : Int), .int .i64 (cn : Int)][k]? = some (.int .i64 (([tn, tn3, cn].getD k 0 : Nat) : Int))) := Lib.hid (fun k hk => by
          match k, hk with
          | 0, _ => rfl
          | 1, _ => rfl
          | 2, _ => rfl)
        obtain ⟨NS, hNS⟩ : ∃ NS : Nat → Nat, NS = fun k => [tn, tn3, cn].getD k 0 := ⟨_, rfl⟩
        have HBW := Lib.hid (box_below wc (.cells #[.int .i64 (tn : Int), .int .i64 (tn3 : Int), .int .i64 (cn : Int)] 3))
        have HLT := Lib.hid (heap_alloc_new wc (.cells #[.int .i64 (tn : Int), .int .i64 (tn3 : Int), .int .i64 (cn : Int)] 3))
        clear hFF
        go_wp2_with fail
        go_loopw [58] (fun i wr => ∃ k : Nat, k ≤ 3 ∧ i = .int .i64 (k : Int) ∧ Hid (GoesT base L w { S4 with told := FF k } wr ∧ wr.heap[wc.heap.size]? = some (.cells #[.int .i64 (tn : Int), .int .i64 (tn3 : Int), .int .i64 (cn : Int)] 3 (0, 0)))) (fun i _ => 3 - (intOf i).toNat)
        case atStart => exact ⟨0, by omega, rfl, Lib.hid ⟨by rw [HF0.out, ← HTOLD4.out]; exact HG4.out.below HBW.out, HLT.out⟩⟩
        case round =>
          obtain ⟨k, hk, rfl, HI⟩ := hrel
          clear HBW HLT
          by_cases hk3 : k < 3
          · have hki : (k : Int) < 3 := by omega
            obtain ⟨hgk, hlit⟩ := HI.out
            have ck : wr.cell? ⟨wc.heap.size, k, none⟩ = some (.int .i64 (([tn, tn3, cn].getD k 0 : Nat) : Int)) := by rw [cell_of hlit]; exact HNS.out k hk3
            have hmb := HNB.out k
            generalize hm : [tn, tn3, cn].getD k 0 = m at ck hmb
            have hwm : IntKind.u64.wrap (m : Int) = m := by rw [IntKind.wrap_u64]; omega
            have HFR := Lib.hid (fun W => footRow_any m W hmb)
            obtain ⟨X5, hX5⟩ : ∃ X, X = bmk (Nm.big m 4) := ⟨_, rfl⟩
            rw [← hX5] at HFR
            obtain ⟨ta5, tc5, hT5⟩ := hgk.told_at
            have c17 := hT5.c17
            dsimp only at c17
            have HTT := Lib.hid hT5
            have HSZ : Hid ((FF k).length + X5.size ≤ 100000000000) := Lib.hid (by rw [hX5, bmk_size, Nm.big_length]; have := HFL3.out k; omega)
            have HFK : Hid (FF (k + 1) = FF k ++ X5.data.toList) := Lib.hid (by rw [HFS.out k hk3, hX5, hm]; rfl)
            have HLIT := Lib.hid hlit
            clear hgk hlit hT5 HI hm hX5
            generalize htn5 : (FF k).length = tn5 at *
            have HTN5 := Lib.hid htn5; clear htn5
            go_wp2_with fail
            go_region_law (first
              | (go_simp; go_at_call 52; refine (HFR.out _).mono ?_; rintro x w6' ⟨rfl, hb6'⟩
                 have hT2 := HTT.out.below (by first | exact Bo.undrew hb6' | exact hb6')
                 have hbw : Below wr.heap.size wr w6' := by first | exact Bo.undrew hb6' | exact hb6'
                 have k17 := hT2.c17)
              | (refine Bo.step_append_str (by rfl) _ _ (by rfl) base (.slice ta5 tn5 tc5) ({ S4 with told := FF k } : TS).told (by rfl) hT2.own X5 (by rfl) (by rw [HTN5.out]; exact HSZ.out) hT2.low ?_
                 intro ao cap w3 hown3 hgrow hlie
                 have k3 : w3.cell? ⟨L.b, 17, none⟩ = some (.slice ta5 tn5 tc5) := (hgrow.cell_far ⟨L.b, 17, none⟩ hT2.lt (Ne.symm hT2.ne)).trans hT2.c17
                 have kf3 : w3.frozen? ⟨L.b, 17, none⟩ = false := (hgrow.frozen_far ⟨L.b, 17, none⟩ hT2.lt (Ne.symm hT2.ne)).trans hT2.f17))
            all_goals
              have HNEW : Hid (GoesT base L w { S4 with told := FF (k + 1) } (w3.setCell ⟨L.b, 17, none⟩ (.slice ao ((FF k).length + X5.size) cap)) ∧ (w3.setCell ⟨L.b, 17, none⟩ (.slice ao ((FF k).length + X5.size) cap)).heap[wc.heap.size]? = some (.cells #[.int .i64 (tn : Int), .int .i64 (tn3 : Int), .int .i64 (cn : Int)] 3 (0, 0))) := Lib.hid (by
                have hg := hT2.grow _ (Below.refl _ _) _ _ _ hown3 hgrow hlie
                rw [show ({ S4 with told := FF k } : TS).told ++ X5.data.toList = FF (k + 1) from HFK.out.symm] at hg
                refine ⟨hg, ?_⟩
                have hlt : wc.heap.size < wr.heap.size := heap_lt HLIT.out
                have hl6 := (hbw.block _ hlt).trans HLIT.out
                rw [setCell_kept _ _ _ (fun e => by
                  have := HG4.out.lt
                  have e2 : wc.heap.size = L.b := e
                  omega), hgrow.block _ (heap_lt hl6) (fun e => by
                  obtain ⟨cs, hc⟩ := ownsRow_obj hT2.own e.symm
                  exact obj_cells_ne hl6 hc (by decide) rfl)]
                exact hl6)
              clear hgrow hlie hown3 k3 kf3 hT2
              go_wp2_with fail
              go_roundw
              case rel => exact ⟨k + 1, by omega, by go_num, HNEW⟩
              case measure => simp [intOf]; omega
          · obtain rfl : k = 3 := by omega
            obtain ⟨hgk, hlit⟩ := HI.out
            rw [HF3.out] at hgk
            have hT := hgk.tab HH.out HT.out HB.out
            obtain ⟨ta5, tc5, hT5⟩ := hgk.told_at
            have c17 := hT5.c17
            have hcv := Owns.convert hT5.own
            dsimp only at c17 hcv
            have HTT := Lib.hid hT5
            obtain ⟨T4, hT4⟩ : ∃ T : ByteArray, T = ⟨s.t4.toArray⟩ := ⟨_, rfl⟩
            rw [← hT4] at hcv
            have hl4 : s.t4.length ≤ 1300000012 := by rw [← HF3.out]; exact HFL3.out 3
            have hz4 : T4.size = s.t4.length := by rw [hT4]; exact bmk_size s.t4
            have hcr : Cr.crc (catl [T4]) = Cr.crc s.t4 := by rw [catl_one, hT4]
            have HCRC := Lib.hid (crc_any (some ⟨wr.heap.size, 0, none⟩) 1 1 [T4] _ (_root_.Go.Proofs.YtphoihkbdogkhaaDoor.sees_one wr T4 9 1) (hT.alloc _) (by intro x hx; rw [List.mem_singleton.1 hx]; omega) (by omega))
            rw [hcr] at HCRC
            have hcl := Cr.crc_lt s.t4
            have HSZ : Hid (s.t4.length + 4 ≤ 100000000000) := Lib.hid (by omega)
            generalize hc5 : Cr.crc s.t4 = c5 at *
            have hw5 : IntKind.u64.wrap (c5 : Int) = c5 := by rw [IntKind.wrap_u64]; omega
            have HFR := Lib.hid (fun W => footRow_any c5 W hcl)
            obtain ⟨X5, hX5⟩ : ∃ X, X = bmk (Nm.big c5 4) := ⟨_, rfl⟩
            rw [← hX5] at HFR
            have HXS : Hid (X5.size = 4) := Lib.hid (by rw [hX5, bmk_size, Nm.big_length])
            have HFK : Hid (s.t5 = s.t4 ++ X5.data.toList) := Lib.hid (by rw [HE5.out, hX5]; rfl)
            have HTA : Hid (∀ o, ToldAt base L w { S4 with told := s.t4 } (wr.alloc o) ta5 s.t4.length tc5) := Lib.hid (fun o => HTT.out.below (box_below _ _))
            have c17b : (wr.alloc (.cells #[.string T4] 9)).cell? ⟨L.b, 17, none⟩ = some (.slice ta5 s.t4.length tc5) := (HTA.out _).c17
            have HFIN : Hid (({ s.lst with index := Bo.st0, told := s.t5 } : TS) = { S4 with told := s.t5 }) := Lib.hid (by rw [HS4.out, HS3.out, HS2.out])
            clear hgk hlit hT hT5 HI hT4 hl4 hz4 hcr hcl hX5 hc5
            generalize htn5 : s.t4.length = tn5 at *
            have HTN5 := Lib.hid htn5; clear htn5
            go_wp2_with fail
            refine HCRC.out.mono ?_
            rintro e w6 ⟨rfl, rfl⟩
            go_wp2_with fail
            go_region_law (first
              | (go_simp; go_at_call 52; refine (HFR.out _).mono ?_; rintro x w7' ⟨rfl, hb7'⟩
                 have hT2 := (HTA.out (.cells #[.string T4] 9)).below (by first | exact Bo.undrew hb7' | exact hb7')
                 have k17 := hT2.c17)
              | (refine Bo.step_append_str (by rfl) _ _ (by rfl) base (.slice ta5 tn5 tc5) ({ S4 with told := s.t4 } : TS).told (by rfl) hT2.own X5 (by rfl) (by rw [HXS.out, HTN5.out]; exact HSZ.out) hT2.low ?_
                 intro ao cap w3 hown3 hgrow hlie
                 have k3 : w3.cell? ⟨L.b, 17, none⟩ = some (.slice ta5 tn5 tc5) := (hgrow.cell_far ⟨L.b, 17, none⟩ hT2.lt (Ne.symm hT2.ne)).trans hT2.c17
                 have kf3 : w3.frozen? ⟨L.b, 17, none⟩ = false := (hgrow.frozen_far ⟨L.b, 17, none⟩ hT2.lt (Ne.symm hT2.ne)).trans hT2.f17))
            all_goals
              have HNEW : Hid (GoesT base L w { S4 with told := s.t5 } (w3.setCell ⟨L.b, 17, none⟩ (.slice ao (s.t4.length + X5.size) cap))) := Lib.hid (by
                have hg := hT2.grow _ (Below.refl _ _) _ _ _ hown3 hgrow hlie
                rw [show ({ S4 with told := s.t4 } : TS).told ++ X5.data.toList = s.t5 from HFK.out.symm] at hg
                exact hg)
              clear hgrow hlie hown3 k3 kf3 hT2
              go_wp2_with fail
              go_end0
              refine ⟨rfl, ?_⟩
              rw [HFIN.out]
              exact HNEW.out
  · have h0' : ¬ (0 : Int) < s.data.n := by omega
    have HL : Hid (s.lst = s) := Lib.hid (by unfold TS.lst; rw [if_neg h0])
    go_enter Tryd.func25, Tryd.ntmps25
    go_wp2_with fail
    refine HCN.out.mono ?_
    rintro e w2 ⟨rfl, hw2⟩
    have hg2 : GoesT base L w s.lst w2 := by rw [hw2, HL.out]; exact HG0.out
    clear hw2
    have HG2 := Lib.hid hg2
    clear HCN HG0 HL hg2
    obtain ⟨X2, hX2⟩ : ∃ X, X = bmk (Bl.mk (kls s.keys)) := ⟨_, rfl⟩
    have hsz2 := mk_le s.keys
    have HSZ : Hid (s.lst.told.length + X2.size ≤ 100000000000) := Lib.hid (by rw [hX2, bmk_size]; have := HFL.out.2.2; have := HF.out.k; omega)
    have HT2 : Hid (s.lst.told ++ X2.data.toList = s.t2) := Lib.hid (by rw [hX2]; rfl)
    have HZ2 : Hid (s.t2.length ≤ 600000000) := Lib.hid (by unfold TS.t2; rw [List.length_append]; have := HFL.out.2.2; have := HF.out.k; omega)
    have HNK := Lib.hid (lst_parts s)
    have HE3 : Hid (s.t3 = s.t2 ++ Bo.fin s.lst.index) := Lib.hid rfl
    have HE4 : Hid (s.t4 = s.t3 ++ foot s.lst.told.length s.t2.length s.cnt) := Lib.hid rfl
    have HE5 : Hid (s.t5 = s.t4 ++ Nm.big (Cr.crc s.t4) 4) := Lib.hid rfl
    obtain ⟨ta, tc, hT2⟩ := HG2.out.told_at
    obtain ⟨ka, kc, k8, hK⟩ := HG2.out.keys_at
    have HMK : Hid (∀ W, Below w2.heap.size w2 W → Calls Tryd.prog 50 #[.slice ka s.lst.keys.length kc] W (fun x w' => x = .returned (.string X2) ∧ Below W.heap.size W w')) := Lib.hid (fun W hW => by
      have h1 := make_any ka s.lst.keys.length kc s.lst.keys W (hK.sees.below hW) (by rw [HNK.out.1]; intro x hx; have := HKS.out x hx; omega) (by rw [HNK.out.1]; have := HF.out.k; omega)
      rw [hX2, ← HNK.out.1]
      exact h1)
    obtain ⟨S2, hS2⟩ : ∃ S, S = s.lst := ⟨_, rfl⟩
    rw [← hS2] at HG2 HSZ HT2 HNK HE3 HE4 hT2 k8 hK HMK HFL
    have HS2 := Lib.hid hS2
    have c17 := hT2.c17
    have HTT := Lib.hid hT2
    clear hS2 hX2 hsz2 hK hT2
    generalize htn : S2.told.length = tn at *
    have HTN := Lib.hid htn; clear htn
    generalize S2.keys.length = kn at *
    go_wp2_with fail
    go_cut [] from 19 to 31 (fun wr => Hid (GoesT base L w { S2 with told := s.t2 } wr))
    case first =>
      go_region_law (first
        | (go_simp; go_at_call 50; refine (HMK.out _ (by first | exact Below.refl _ _ | exact (Below.refl _ _).drew)).mono ?_; rintro x w3' ⟨rfl, hb3'⟩
           have hT2 := HTT.out.below (by first | exact Bo.undrew hb3' | exact hb3')
           have k17 := hT2.c17)
        | (refine Bo.step_append_str (by rfl) _ _ (by rfl) base (.slice ta tn tc) S2.told (by rfl) hT2.own X2 (by rfl) (by rw [HTN.out]; exact HSZ.out) hT2.low ?_
           intro ao cap w3 hown3 hgrow hlie
           have k3 : w3.cell? ⟨L.b, 17, none⟩ = some (.slice ta tn tc) := (hgrow.cell_far ⟨L.b, 17, none⟩ hT2.lt (Ne.symm hT2.ne)).trans hT2.c17
           have kf3 : w3.frozen? ⟨L.b, 17, none⟩ = false := (hgrow.frozen_far ⟨L.b, 17, none⟩ hT2.lt (Ne.symm hT2.ne)).trans hT2.f17))
      all_goals
        go_wp2_with fail
        go_meet
        case rel => exact Lib.hid (by
          have hg := hT2.grow _ (Below.refl _ _) _ _ _ hown3 hgrow hlie
          rw [HT2.out] at hg
          exact hg)
    case rest =>
      have HG3 := hcut; clear hcut HMK c17 k8 HTT HSZ
      obtain ⟨S3, hS3⟩ : ∃ S, S = ({ S2 with told := s.t2 } : TS) := ⟨_, rfl⟩
      rw [← hS3] at HG3
      obtain ⟨X3, hX3⟩ : ∃ X, X = bmk (Bo.fin S3.index) := ⟨_, rfl⟩
      have hi3 : S3.index = S2.index := by rw [hS3]
      have ht3 : S3.told = s.t2 := by rw [hS3]
      have hfin3 := Bo.fin_length S2.index
      have hr3 : S2.index.rows.length ≤ 300000000 := by have := HFL.out.1.rows; have := HFL.out.2.1; omega
      have hf3 : S2.index.foot.length ≤ 300000000 := by have := HFL.out.1.foot; have := HFL.out.2.1; omega
      have HSZ : Hid (S3.told.length + X3.size ≤ 100000000000) := Lib.hid (by rw [hX3, bmk_size, hi3, ht3]; have := HZ2.out; omega)
      have HZ3 : Hid (s.t3.length ≤ 1300000000) := Lib.hid (by rw [HE3.out, List.length_append]; have := HZ2.out; omega)
      have HT3 : Hid (S3.told ++ X3.data.toList = s.t3) := Lib.hid (by rw [ht3, hX3, hi3, HE3.out]; rfl)
      obtain ⟨ta3, tc3, hT3, hIF⟩ := HG3.out.told_ifin (by rw [hi3]; omega) (by rw [hi3]; omega) (by rw [hi3]; have := HFL.out.2.1; omega)
      rw [← hX3] at hIF
      have c17 := hT3.c17
      have HIF := Lib.hid hIF; have HS3 := Lib.hid hS3; have HTOLD3 := Lib.hid ht3
      clear hS3 hX3 hi3 ht3 hfin3 hr3 hf3 hT3 hIF
      generalize htn3 : S3.told.length = tn3 at *
      have HTN3 := Lib.hid htn3; clear htn3
      go_wp2_with fail
      go_cut [] from 37 to 48 (fun wr => Hid (GoesT base L w { S3 with index := Bo.st0, told := s.t3 } wr))
      case first =>
        go_region_law (first
          | (go_simp; go_at_call 51; refine (HIF.out _ (by first | exact Below.refl _ _ | exact (Below.refl _ _).drew)).mono ?_; rintro x w4' ⟨rfl, hT2⟩
             have k17 := hT2.c17)
          | (refine Bo.step_append_str (by rfl) _ _ (by rfl) base (.slice ta3 tn3 tc3) S3.told (by rfl) hT2.own X3 (by rfl) (by rw [HTN3.out]; exact HSZ.out) hT2.low ?_
             intro ao cap w3 hown3 hgrow hlie
             have k3 : w3.cell? ⟨L.b, 17, none⟩ = some (.slice ta3 tn3 tc3) := (hgrow.cell_far ⟨L.b, 17, none⟩ hT2.lt (Ne.symm hT2.ne)).trans hT2.c17
             have kf3 : w3.frozen? ⟨L.b, 17, none⟩ = false := (hgrow.frozen_far ⟨L.b, 17, none⟩ hT2.lt (Ne.symm hT2.ne)).trans hT2.f17))
        all_goals
          go_wp2_with fail
          go_meet
          case rel => exact Lib.hid (by
            have hg := hT2.grow _ (Below.refl _ _) _ _ _ hown3 hgrow hlie
            rw [HT3.out] at hg
            exact hg)
      case rest =>
        have HG4 := hcut; clear hcut HIF c17 HSZ
        have HTL : Hid (S3.told = s.t2) := HTOLD3
        obtain ⟨S4, hS4⟩ : ∃ S, S = ({ S3 with index := Bo.st0, told := s.t3 } : TS) := ⟨_, rfl⟩
        rw [← hS4] at HG4
        have hc4 : S4.cnt = s.cnt := by rw [hS4, HS3.out]; exact HNK.out.2
        have c2 : wc.cell? ⟨L.b, 2, none⟩ = some (.int .i64 (s.cnt : Int)) := by rw [← hc4]; exact HG4.out.cell 2 (fun _ => rfl)
        have HTOLD4 : Hid (S4.told = s.t3) := Lib.hid (by rw [hS4])
        have HS4 := Lib.hid hS4
        clear hS4 hc4
        obtain ⟨cn, hcn⟩ : ∃ cn, cn = s.cnt := ⟨_, rfl⟩
        rw [← hcn] at c2 HE4
        have hcnt : cn ≤ 200000 := by have := HF.out.c; omega
        have HCNT := Lib.hid hcnt
        have HCN := Lib.hid hcn
        clear hcn hcnt
        obtain ⟨FF, hFF⟩ : ∃ FF : Nat → List UInt8, FF = fun k => s.t3 ++ (([tn, tn3, cn].take k).flatMap fun m => Nm.big m 4) := ⟨_, rfl⟩
        have HF0 : Hid (FF 0 = s.t3) := Lib.hid (by rw [hFF]; simp)
        have HF3 : Hid (FF 3 = s.t4) := Lib.hid (by rw [hFF, HE4.out, ← HTL.out, HTN3.out]; simp [foot])
        have HFS : Hid (∀ k, k < 3 → FF (k + 1) = FF k ++ Nm.big ([tn, tn3, cn].getD k 0) 4) := Lib.hid (fun k hk => by
          rw [hFF]
          match k, hk with
          | 0, _ => simp
          | 1, _ => simp
          | 2, _ => simp)
        have HFL3 : Hid (∀ k, (FF k).length ≤ 1300000012) := Lib.hid (fun k => by
          rw [hFF]
          have h1 := HZ3.out
          match k with
          | 0 => simp; omega
          | 1 => simp [Nm.big_length]; omega
          | 2 => simp [Nm.big_length]; omega
          | k + 3 => simp [Nm.big_length]; omega)
        have HNB : Hid (∀ k, [tn, tn3, cn].getD k 0 < 4294967296) := Lib.hid (fun k => by
          match k with
          | 0 => show tn < _; have := HFL.out.2.2; omega
          | 1 => show tn3 < _; rw [← HTN3.out, HTL.out]; have := HZ2.out; omega
          | 2 => show cn < _; have := HCNT.out; omega
          | k + 3 => simp)
        have HNS : Hid (∀ k, k < 3 → #[Value.int .i64 (tn : Int), .int .i64 (tn3 : Int), .int .i64 (cn : Int)][k]? = some (.int .i64 (([tn, tn3, cn].getD k 0 : Nat) : Int))) := Lib.hid (fun k hk => by
          match k, hk with
          | 0, _ => rfl
          | 1, _ => rfl
          | 2, _ => rfl)
        obtain ⟨NS, hNS⟩ : ∃ NS : Nat → Nat, NS = fun k => [tn, tn3, cn].getD k 0 := ⟨_, rfl⟩
        have HBW := Lib.hid (box_below wc (.cells #[.int .i64 (tn : Int), .int .i64 (tn3 : Int), .int .i64 (cn : Int)] 3))
        have HLT := Lib.hid (heap_alloc_new wc (.cells #[.int .i64 (tn : Int), .int .i64 (tn3 : Int), .int .i64 (cn : Int)] 3))
        clear hFF
        go_wp2_with fail
        go_loopw [58] (fun i wr => ∃ k : Nat, k ≤ 3 ∧ i = .int .i64 (k : Int) ∧ Hid (GoesT base L w { S4 with told := FF k } wr ∧ wr.heap[wc.heap.size]? = some (.cells #[.int .i64 (tn : Int), .int .i64 (tn3 : Int), .int .i64 (cn : Int)] 3 (0, 0)))) (fun i _ => 3 - (intOf i).toNat)
        case atStart => exact ⟨0, by omega, rfl, Lib.hid ⟨by rw [HF0.out, ← HTOLD4.out]; exact HG4.out.below HBW.out, HLT.out⟩⟩
        case round =>
          obtain ⟨k, hk, rfl, HI⟩ := hrel
          clear HBW HLT
          by_cases hk3 : k < 3
          · have hki : (k : Int) < 3 := by omega
            obtain ⟨hgk, hlit⟩ := HI.out
            have ck : wr.cell? ⟨wc.heap.size, k, none⟩ = some (.int .i64 (([tn, tn3, cn].getD k 0 : Nat) : Int)) := by rw [cell_of hlit]; exact HNS.out k hk3
            have hmb := HNB.out k
            generalize hm : [tn, tn3, cn].getD k 0 = m at ck hmb
            have hwm : IntKind.u64.wrap (m : Int) = m := by rw [IntKind.wrap_u64]; omega
            have HFR := Lib.hid (fun W => footRow_any m W hmb)
            obtain ⟨X5, hX5⟩ : ∃ X, X = bmk (Nm.big m 4) := ⟨_, rfl⟩
            rw [← hX5] at HFR
            obtain ⟨ta5, tc5, hT5⟩ := hgk.told_at
            have c17 := hT5.c17
            dsimp only at c17
            have HTT := Lib.hid hT5
            have HSZ : Hid ((FF k).length + X5.size ≤ 100000000000) := Lib.hid (by rw [hX5, bmk_size, Nm.big_length]; have := HFL3.out k; omega)
            have HFK : Hid (FF (k + 1) = FF k ++ X5.data.toList) := Lib.hid (by rw [HFS.out k hk3, hX5, hm]; rfl)
            have HLIT := Lib.hid hlit
            clear hgk hlit hT5 HI hm hX5
            generalize htn5 : (FF k).length = tn5 at *
            have HTN5 := Lib.hid htn5; clear htn5
            go_wp2_with fail
            go_region_law (first
              | (go_simp; go_at_call 52; refine (HFR.out _).mono ?_; rintro x w6' ⟨rfl, hb6'⟩
                 have hT2 := HTT.out.below (by first | exact Bo.undrew hb6' | exact hb6')
                 have hbw : Below wr.heap.size wr w6' := by first | exact Bo.undrew hb6' | exact hb6'
                 have k17 := hT2.c17)
              | (refine Bo.step_append_str (by rfl) _ _ (by rfl) base (.slice ta5 tn5 tc5) ({ S4 with told := FF k } : TS).told (by rfl) hT2.own X5 (by rfl) (by rw [HTN5.out]; exact HSZ.out) hT2.low ?_
                 intro ao cap w3 hown3 hgrow hlie
                 have k3 : w3.cell? ⟨L.b, 17, none⟩ = some (.slice ta5 tn5 tc5) := (hgrow.cell_far ⟨L.b, 17, none⟩ hT2.lt (Ne.symm hT2.ne)).trans hT2.c17
                 have kf3 : w3.frozen? ⟨L.b, 17, none⟩ = false := (hgrow.frozen_far ⟨L.b, 17, none⟩ hT2.lt (Ne.symm hT2.ne)).trans hT2.f17))
            all_goals
              have HNEW : Hid (GoesT base L w { S4 with told := FF (k + 1) } (w3.setCell ⟨L.b, 17, none⟩ (.slice ao ((FF k).length + X5.size) cap)) ∧ (w3.setCell ⟨L.b, 17, none⟩ (.slice ao ((FF k).length + X5.size) cap)).heap[wc.heap.size]? = some (.cells #[.int .i64 (tn : Int), .int .i64 (tn3 : Int), .int .i64 (cn : Int)] 3 (0, 0))) := Lib.hid (by
                have hg := hT2.grow _ (Below.refl _ _) _ _ _ hown3 hgrow hlie
                rw [show ({ S4 with told := FF k } : TS).told ++ X5.data.toList = FF (k + 1) from HFK.out.symm] at hg
                refine ⟨hg, ?_⟩
                have hlt : wc.heap.size < wr.heap.size := heap_lt HLIT.out
                have hl6 := (hbw.block _ hlt).trans HLIT.out
                rw [setCell_kept _ _ _ (fun e => by
                  have := HG4.out.lt
                  have e2 : wc.heap.size = L.b := e
                  omega), hgrow.block _ (heap_lt hl6) (fun e => by
                  obtain ⟨cs, hc⟩ := ownsRow_obj hT2.own e.symm
                  exact obj_cells_ne hl6 hc (by decide) rfl)]
                exact hl6)
              clear hgrow hlie hown3 k3 kf3 hT2
              go_wp2_with fail
              go_roundw
              case rel => exact ⟨k + 1, by omega, by go_num, HNEW⟩
              case measure => simp [intOf]; omega
          · obtain rfl : k = 3 := by omega
            obtain ⟨hgk, hlit⟩ := HI.out
            rw [HF3.out] at hgk
            have hT := hgk.tab HH.out HT.out HB.out
            obtain ⟨ta5, tc5, hT5⟩ := hgk.told_at
            have c17 := hT5.c17
            have hcv := Owns.convert hT5.own
            dsimp only at c17 hcv
            have HTT := Lib.hid hT5
            obtain ⟨T4, hT4⟩ : ∃ T : ByteArray, T = ⟨s.t4.toArray⟩ := ⟨_, rfl⟩
            rw [← hT4] at hcv
            have hl4 : s.t4.length ≤ 1300000012 := by rw [← HF3.out]; exact HFL3.out 3
            have hz4 : T4.size = s.t4.length := by rw [hT4]; exact bmk_size s.t4
            have hcr : Cr.crc (catl [T4]) = Cr.crc s.t4 := by rw [catl_one, hT4]
            have HCRC := Lib.hid (crc_any (some ⟨wr.heap.size, 0, none⟩) 1 1 [T4] _ (_root_.Go.Proofs.YtphoihkbdogkhaaDoor.sees_one wr T4 9 1) (hT.alloc _) (by intro x hx; rw [List.mem_singleton.1 hx]; omega) (by omega))
            rw [hcr] at HCRC
            have hcl := Cr.crc_lt s.t4
            have HSZ : Hid (s.t4.length + 4 ≤ 100000000000) := Lib.hid (by omega)
            generalize hc5 : Cr.crc s.t4 = c5 at *
            have hw5 : IntKind.u64.wrap (c5 : Int) = c5 := by rw [IntKind.wrap_u64]; omega
            have HFR := Lib.hid (fun W => footRow_any c5 W hcl)
            obtain ⟨X5, hX5⟩ : ∃ X, X = bmk (Nm.big c5 4) := ⟨_, rfl⟩
            rw [← hX5] at HFR
            have HXS : Hid (X5.size = 4) := Lib.hid (by rw [hX5, bmk_size, Nm.big_length])
            have HFK : Hid (s.t5 = s.t4 ++ X5.data.toList) := Lib.hid (by rw [HE5.out, hX5]; rfl)
            have HTA : Hid (∀ o, ToldAt base L w { S4 with told := s.t4 } (wr.alloc o) ta5 s.t4.length tc5) := Lib.hid (fun o => HTT.out.below (box_below _ _))
            have c17b : (wr.alloc (.cells #[.string T4] 9)).cell? ⟨L.b, 17, none⟩ = some (.slice ta5 s.t4.length tc5) := (HTA.out _).c17
            have HFIN : Hid (({ s.lst with index := Bo.st0, told := s.t5 } : TS) = { S4 with told := s.t5 }) := Lib.hid (by rw [HS4.out, HS3.out, HS2.out])
            clear hgk hlit hT hT5 HI hT4 hl4 hz4 hcr hcl hX5 hc5
            generalize htn5 : s.t4.length = tn5 at *
            have HTN5 := Lib.hid htn5; clear htn5
            go_wp2_with fail
            refine HCRC.out.mono ?_
            rintro e w6 ⟨rfl, rfl⟩
            go_wp2_with fail
            go_region_law (first
              | (go_simp; go_at_call 52; refine (HFR.out _).mono ?_; rintro x w7' ⟨rfl, hb7'⟩
                 have hT2 := (HTA.out (.cells #[.string T4] 9)).below (by first | exact Bo.undrew hb7' | exact hb7')
                 have k17 := hT2.c17)
              | (refine Bo.step_append_str (by rfl) _ _ (by rfl) base (.slice ta5 tn5 tc5) ({ S4 with told := s.t4 } : TS).told (by rfl) hT2.own X5 (by rfl) (by rw [HXS.out, HTN5.out]; exact HSZ.out) hT2.low ?_
                 intro ao cap w3 hown3 hgrow hlie
                 have k3 : w3.cell? ⟨L.b, 17, none⟩ = some (.slice ta5 tn5 tc5) := (hgrow.cell_far ⟨L.b, 17, none⟩ hT2.lt (Ne.symm hT2.ne)).trans hT2.c17
                 have kf3 : w3.frozen? ⟨L.b, 17, none⟩ = false := (hgrow.frozen_far ⟨L.b, 17, none⟩ hT2.lt (Ne.symm hT2.ne)).trans hT2.f17))
            all_goals
              have HNEW : Hid (GoesT base L w { S4 with told := s.t5 } (w3.setCell ⟨L.b, 17, none⟩ (.slice ao (s.t4.length + X5.size) cap))) := Lib.hid (by
                have hg := hT2.grow _ (Below.refl _ _) _ _ _ hown3 hgrow hlie
                rw [show ({ S4 with told := s.t4 } : TS).told ++ X5.data.toList = s.t5 from HFK.out.symm] at hg
                exact hg)
              clear hgrow hlie hown3 k3 kf3 hT2
              go_wp2_with fail
              go_end0
              refine ⟨rfl, ?_⟩
              rw [HFIN.out]
              exact HNEW.out
end Go.Proofs.YtphoihkbdogkhaaDoor.Bn.Tw

/- The walks of table's New and Finish. -/
namespace Go.Proofs.YtphoihkbdogkhaaDoor.Bn.Tw
open Go Go.RowKit Go.Proofs.YtphoihkbdogkhaaDoor.Tb
open Go.Proofs.YtphoihkbdogkhaaDoor.Bn.Bo (Turns Seat BL Built GoesB OwnB ownsRow_frame ownsRow_lt ownsRow_obj heap_lt cell_of unfrozen_of obj_cells_ne setCell_kept)
set_option linter.unusedVariables false
set_option maxRecDepth 100000

theorem new_any (n : Nat) (lev : Int) (w : World) :
    Calls Tryd.prog 8 #[.int .u64 (n : Int), .int .i64 lev] w fun x w' => ∃ L, L.b = w.heap.size ∧ x = .returned (.pointer (some ⟨L.b, 0, none⟩)) ∧ BuiltT w' w.heap.size L (TS.new n lev) ∧ Below w.heap.size w w' := by
  go_enter Tryd.func8, Tryd.ntmps8
  go_wp2_with fail
  go_ret
  refine ⟨⟨w.heap.size, .slice none 0 0, .slice none 0 0, .slice none 0 0, .slice none 0 0, .slice none 0 0, .slice none 0 0⟩, rfl, rfl, ⟨heap_alloc_new w _, OwnsS.nil _ _, Owns.nil _ _, Owns.nil _ _, Owns.nil _ _, Owns.nil _ _, Owns.nil _ _, ?_, Nat.le_refl _⟩, box_below _ _⟩
  constructor
  all_goals
    intro k hk
    simp [isK, isD, isI, Value.ownBlock] at hk
/-- A builder that was finished. -/
def doneT : TS := ⟨0, 0, 0, 0, 0, [], Bo.st0, Bo.st0, [], ⟨#[]⟩, true⟩
abbrev allT (w : World) (b : Nat) : World := ((((((((((((((((((((w).setCell ⟨b, 0, none⟩ (.int .u64 0)).setCell ⟨b, 1, none⟩ (.int .i64 0)).setCell ⟨b, 2, none⟩ (.int .i64 0)).setCell ⟨b, 3, none⟩ (.int .i64 0)).setCell ⟨b, 4, none⟩ (.string ⟨#[]⟩)).setCell ⟨b, 5, none⟩ (.string ⟨#[]⟩)).setCell ⟨b, 6, none⟩ (.int .u64 0)).setCell ⟨b, 7, none⟩ (.int .u64 0)).setCell ⟨b, 8, none⟩ (.slice none 0 0)).setCell ⟨b, 9, none⟩ (.slice none 0 0)).setCell ⟨b, 10, none⟩ (.slice none 0 0)).setCell ⟨b, 11, none⟩ (.int .i64 0)).setCell ⟨b, 12, none⟩ (.string ⟨#[]⟩)).setCell ⟨b, 13, none⟩ (.slice none 0 0)).setCell ⟨b, 14, none⟩ (.slice none 0 0)).setCell ⟨b, 15, none⟩ (.int .i64 0)).setCell ⟨b, 16, none⟩ (.string ⟨#[]⟩)).setCell ⟨b, 17, none⟩ (.slice none 0 0)).setCell ⟨b, 18, none⟩ (.string ⟨#[]⟩)).setCell ⟨b, 19, none⟩ (.bool true)
/-- Cells stored one behind the other. -/
def stores (b : Nat) : World → Nat → List Value → World
  | w, _, [] => w
  | w, k, v :: vs => stores b (w.setCell ⟨b, k, none⟩ v) (k + 1) vs
theorem stores_heap (b : Nat) (t : TypeId) : ∀ (new old pre : List Value) (w : World), new.length = old.length → w.heap[b]? = some (.cells (pre ++ old).toArray t (0, 0)) → (stores b w pre.length new).heap[b]? = some (.cells (pre ++ new).toArray t (0, 0))
  | [], [], pre, w, _, h => h
  | v :: new, o :: old, pre, w, hl, h => by
    have h1 := heap_setCell_same w b pre.length _ _ v h
    have e : (pre ++ o :: old).toArray.setIfInBounds pre.length v = ((pre ++ [v]) ++ old).toArray := by simp
    rw [e] at h1
    have h2 := stores_heap b t new old (pre ++ [v]) _ (by simpa using hl) h1
    rw [List.length_append, List.length_singleton] at h2
    rw [stores]
    rw [h2]
    simp
  | [], _ :: _, _, _, hl, _ => by simp at hl
  | _ :: _, [], _, _, hl, _ => by simp at hl
theorem stores_turns (b : Nat) : ∀ (new : List Value) (k : Nat) (w : World), Turns (fun k => k = b) w (stores b w k new)
  | [], _, w => Turns.refl _ w
  | v :: new, k, w => (Turns.of_setCell (P := fun k => k = b) w ⟨b, k, none⟩ v rfl).trans (stores_turns b new (k + 1) _) (fun _ h => Or.inl h)
abbrev doneL : TL → TL := fun L => ⟨L.b, .slice none 0 0, .slice none 0 0, .slice none 0 0, .slice none 0 0, .slice none 0 0, .slice none 0 0⟩
theorem allT_is (w : World) (b : Nat) : allT w b = stores b w 0 [.int .u64 0, .int .i64 0, .int .i64 0, .int .i64 0, .string ⟨#[]⟩, .string ⟨#[]⟩, .int .u64 0, .int .u64 0, .slice none 0 0, .slice none 0 0, .slice none 0 0, .int .i64 0, .string ⟨#[]⟩, .slice none 0 0, .slice none 0 0, .int .i64 0, .string ⟨#[]⟩, .slice none 0 0, .string ⟨#[]⟩, .bool true] := rfl
theorem allT_heap {w : World} {b : Nat} {L : TL} {s : TS} (h : w.heap[b]? = some (.cells (cellsT L s) 66 (0, 0))) : (allT w b).heap[b]? = some (.cells (cellsT ⟨b, .slice none 0 0, .slice none 0 0, .slice none 0 0, .slice none 0 0, .slice none 0 0, .slice none 0 0⟩ doneT) 66 (0, 0)) := by
  rw [allT_is]
  exact stores_heap b _ [.int .u64 0, .int .i64 0, .int .i64 0, .int .i64 0, .string ⟨#[]⟩, .string ⟨#[]⟩, .int .u64 0, .int .u64 0, .slice none 0 0, .slice none 0 0, .slice none 0 0, .int .i64 0, .string ⟨#[]⟩, .slice none 0 0, .slice none 0 0, .int .i64 0, .string ⟨#[]⟩, .slice none 0 0, .string ⟨#[]⟩, .bool true] (cellsT L s).toList [] w rfl h
theorem allT_turns (w : World) (b : Nat) : Turns (fun k => k = b) w (allT w b) := by
  rw [allT_is]
  exact stores_turns b _ _ _
/-- The zero builder that was finished is stored. -/
theorem GoesT.clear {w w1 : World} {base : Nat} {L : TL} {s1 : TS} (h : GoesT base L w s1 w1) : GoesT base L w doneT (allT w1 L.b) := by
  obtain ⟨L', e, hb, ht, ho⟩ := h
  have hbox := hb.box
  rw [e] at hbox
  refine ⟨⟨L.b, .slice none 0 0, .slice none 0 0, .slice none 0 0, .slice none 0 0, .slice none 0 0, .slice none 0 0⟩, rfl, ⟨allT_heap hbox, OwnsS.nil _ _, Owns.nil _ _, Owns.nil _ _, Owns.nil _ _, Owns.nil _ _, Owns.nil _ _, ?_, by rw [← e]; exact hb.low⟩, ht.trans (allT_turns w1 L.b) (fun x hx => Or.inl (Or.inl hx)), fun k hk => ?_⟩
  · constructor
    all_goals
      intro k hk
      simp [isK, isD, isI, Value.ownBlock] at hk
  · rcases hk with rfl | hk | (hk | hk) | (hk | hk) | hk
    · exact Or.inl (Or.inl rfl)
    all_goals simp [isK, isT, Value.ownBlock] at hk
/-- 'b[j:]' of bytes of the call's own, as a text. -/
theorem bytes_rest {w : World} {base : Nat} {a : Option Addr} {n c : Nat} {l : List UInt8} (h : Owns w base (.slice a n c) l) (j : Nat) (hj : j ≤ l.length) (hl : l.length ≤ 1000000000000) :
    ∃ v, (∀ w', (Instr.slice 34 (.slice a n c) (some (.int .i64 (j : Int))) none none).run Tryd.prog w' = .ok v w') ∧ (convert 34 9 v).run Tryd.prog w = .ok (.string (bmk (l.drop j))) w := by
  obtain ⟨i0, hi, hz0, hz1, hz2⟩ := info_parts info_u8
  have hn : n = l.length := by rcases h.2 with ⟨e, h1⟩ | ⟨g, cap, cur, e, _⟩ <;> simp only [Value.slice.injEq] at e <;> omega
  refine ⟨sliced a j n c 1, fun w' => ?_, ?_⟩
  · rw [run_slice_l w' 34 a n c (by kernel_rfl) .i64 j (by omega) (by omega)]
    have he : Tryd.prog.elem 34 = 5 := by kernel_rfl
    rw [he]
    have hs : (sizeOf 5).run Tryd.prog w' = .ok 1 w' := by simp [sizeOf, typeInfo, hi, hz1]
    rw [hs]
    simp only [Result.andThen, Int.toNat_natCast]
  · have h' : w.ownsRow base 5 1 (.slice a n c) l.length (l.map cellOf) := h
    rcases h'.2 with ⟨e, h0⟩ | ⟨g, cap, cur, e, _⟩
    · obtain rfl : l = [] := List.eq_nil_of_length_eq_zero h0
      simp only [Value.slice.injEq] at e
      obtain ⟨rfl, rfl, rfl⟩ := e
      obtain rfl : j = 0 := by simpa using hj
      exact Owns.convert (Owns.nil w base)
    · simp only [Value.slice.injEq] at e
      obtain ⟨rfl, -, rfl⟩ := e
      have hlen : n - j = (l.drop j).length := by rw [List.length_drop, hn]
      have hcap : l.length ≤ c := by
        rcases h.2 with ⟨e, _⟩ | ⟨g2, cap2, cur2, e, _, _, h3, _⟩
        · simp at e
        · simp only [Value.slice.injEq] at e
          omega
      have hsl : sliced (some (⟨g, 0, none⟩ : Addr)) j n c 1 = .slice (some ⟨g, if c = j then 0 else j, none⟩) (l.drop j).length (c - j) := by
        unfold sliced
        rw [hlen]
        by_cases hcj : c = j
        · rw [if_pos hcj, if_pos hcj]
        · rw [if_neg hcj, if_neg hcj]
          simp [Bo.add_none]
      rw [hsl]
      refine run_convert_bytes_back w _ _ _ _ _ _ Tryd.underlying34 Tryd.underlying5 Tryd.underlying9 (fun i hi2 => ?_)
      have hi3 : j + i < l.length := by rw [List.length_drop] at hi2; omega
      have hcell := h'.cells (g := g) rfl (j + i) (cellOf l[j + i]) (by simp [List.getElem?_eq_getElem hi3])
      have hcn : c ≠ j := by omega
      rw [if_neg hcn]
      have hg : (l.drop j)[i] = l[j + i] := by simp
      rw [hg]
      rw [Bo.add_none] at hcell
      rw [show (⟨g, j, none⟩ : Addr).add i = ⟨g, j + i, none⟩ by unfold Addr.add; split <;> simp_all]
      exact hcell
end Go.Proofs.YtphoihkbdogkhaaDoor.Bn.Tw

/- The walk of table's Finish. -/
namespace Go.Proofs.YtphoihkbdogkhaaDoor.Bn.Tw
open Go Go.RowKit Go.Proofs.YtphoihkbdogkhaaDoor.Tb
open Go.Proofs.YtphoihkbdogkhaaDoor.Bn.Bo (Turns Seat BL Built GoesB OwnB ownsRow_frame ownsRow_lt ownsRow_obj heap_lt cell_of unfrozen_of obj_cells_ne setCell_kept)
set_option linter.unusedVariables false
set_option maxRecDepth 100000

theorem _root_.Go.Proofs.YtphoihkbdogkhaaDoor.Bn.Bo.Turns.set {P : Nat → Prop} {w w1 : World} (h : Turns P w w1) (a : Addr) (v : Value) (hp : P a.block) : Turns P w (w1.setCell a v) := h.trans (Turns.of_setCell (P := P) _ _ _ hp) (fun x hx => Or.inl hx)
theorem GoesT.done_box {w W8 W9 : World} {base : Nat} {L : TL} {o : Obj} (h8 : GoesT base L (w.alloc o) doneT W8) (hno : ¬ OwnT L w.heap.size) (ht : Turns (fun k => k = w.heap.size) W8 W9) : GoesT base L w doneT W9 := by
  obtain ⟨L1, e, hb, htt, ho⟩ := h8
  have hs := World.size_alloc w o
  have hn1 : ¬ OwnT L1 w.heap.size := fun hk => by
    rcases ho _ hk with h | h
    · exact hno h
    · omega
  refine ⟨L1, e, hb.turned ht (fun k hk e2 => hn1 (e2 ▸ hk)), ?_, fun k hk => (ho k hk).imp id (fun h => by omega)⟩
  refine ((Turns.of_below (P := OwnT L) (box_below w o)).trans htt (fun x hx => Or.inl hx)).trans ht (fun x hx => Or.inr (by rw [hx]; exact Nat.le_refl _))
theorem stores_cells (b : Nat) : ∀ (vs : List Value) (k : Nat) (w : World), stores b w k vs = w.setCells b k vs
  | [], _, _ => rfl
  | v :: vs, k, w => by rw [stores, stores_cells b vs]; rfl
abbrev tabV (s : TS) (size : Nat) (first last : ByteArray) : Value := .agg #[.int .u64 (s.nn : Int), .int .i64 s.lev, .int .i64 (s.cnt : Int), .int .i64 (size : Int), .string first, .string last, .int .u64 (s.least : Int), .int .u64 (s.most : Int)]
abbrev tab0 : Value := .agg #[.int .u64 0, .int .i64 0, .int .i64 0, .int .i64 0, .string ⟨#[]⟩, .string ⟨#[]⟩, .int .u64 0, .int .u64 0]
abbrev tabX : Obj := .cells #[.int .u64 0, .int .i64 0, .int .i64 0, .int .i64 0, .string ⟨#[]⟩, .string ⟨#[]⟩, .int .u64 0, .int .u64 0] 26
theorem finish_nil (w : World) : Calls Tryd.prog 9 #[.pointer none] w (Gives (.tuple #[.string ⟨#[]⟩, tab0, .int .i64 2]) w) := by
  go_enter Tryd.func9, Tryd.ntmps9
  go_wp2_with fail
  exact bodyPost_ret (v := .tuple #[.string ⟨#[]⟩, tab0, .int .i64 2]) (by simp [results, Tryd.results9, go_sem]) rfl ⟨rfl, box_below _ _⟩
theorem finish_no {w : World} {base : Nat} {L : TL} {s : TS} (h : BuiltT w base L s) (hc : s.done = true ∨ s.cnt = 0) : Calls Tryd.prog 9 #[.pointer (some ⟨L.b, 0, none⟩)] w (Gives (.tuple #[.string ⟨#[]⟩, tab0, .int .i64 9]) w) := by
  by_cases hd : s.done = true
  · have c19 : (w.alloc tabX).cell? ⟨L.b, 19, none⟩ = some (.bool true) := by rw [(h.alloc _).cell 19, ← hd]; rfl
    clear hc h hd
    go_enter Tryd.func9, Tryd.ntmps9
    go_wp2_with fail
    exact bodyPost_ret (v := .tuple #[.string ⟨#[]⟩, tab0, .int .i64 9]) (by simp [results, Tryd.results9, go_sem]) rfl ⟨rfl, box_below _ _⟩
  · have hd2 : s.done = false := by simpa using hd
    have h0 : s.cnt = 0 := hc.resolve_left hd
    have c19 : (w.alloc tabX).cell? ⟨L.b, 19, none⟩ = some (.bool false) := by rw [(h.alloc _).cell 19, ← hd2]; rfl
    have c2 : (w.alloc tabX).cell? ⟨L.b, 2, none⟩ = some (.int .i64 0) := by rw [(h.alloc _).cell 2]; show some (Value.int .i64 (s.cnt : Int)) = _; rw [h0]; rfl
    clear hc h hd hd2 h0
    go_enter Tryd.func9, Tryd.ntmps9
    go_wp2_with fail
    exact bodyPost_ret (v := .tuple #[.string ⟨#[]⟩, tab0, .int .i64 9]) (by simp [results, Tryd.results9, go_sem]) rfl ⟨rfl, box_below _ _⟩
set_option maxHeartbeats 4000000 in
theorem finish_ok {w : World} {base : Nat} {L : TL} {s : TS} (h : BuiltT w base L s) (hT : Tab w) (hB : 0 < base) (hf : Fits s 100001) (hks : ∀ k ∈ s.keys, k.size ≤ 1000000) (hd : s.done = false) (hc : s.cnt ≠ 0) (hkn : s.keys ≠ []) (hpre : s.told.length ≤ s.t5.length) (ht5 : s.t5.length ≤ 1000000000000) :
    Calls Tryd.prog 9 #[.pointer (some ⟨L.b, 0, none⟩)] w fun x w' => x = .returned (.tuple #[.string (bmk (rest s)), tabV s s.t5.length (s.keys.headD ⟨#[]⟩) (s.keys.getLastD ⟨#[]⟩), .int .i64 0]) ∧ GoesT base L w doneT w' := by
  obtain ⟨W0, hW0⟩ : ∃ W0, W0 = w.alloc tabX := ⟨_, rfl⟩
  have HB0 : Hid (Below w.heap.size w W0) := Lib.hid (by rw [hW0]; exact box_below _ _)
  have h0 := h.below HB0.out
  have c19 : (w.alloc tabX).cell? ⟨L.b, 19, none⟩ = some (.bool false) := by rw [(h.alloc _).cell 19, ← hd]; rfl
  have c2 : (w.alloc tabX).cell? ⟨L.b, 2, none⟩ = some (.int .i64 (s.cnt : Int)) := (h.alloc _).cell 2
  have hc1 : ((s.cnt : Int) == 0) = false := by simp; omega
  obtain ⟨ta, tc, hT0⟩ := (GoesT.refl (h.alloc tabX)).told_at
  have c17 := hT0.c17
  have HET := Lib.hid (endTable_any (h.alloc tabX) (hT.alloc _) hB hf hks)
  clear hT0 hc
  generalize htn : s.told.length = tn at *
  go_enter Tryd.func9, Tryd.ntmps9
  go_wp2_with fail
  refine HET.out.mono ?_
  rintro x w2 ⟨rfl, hg2⟩
  obtain ⟨S2, hS2⟩ : ∃ S, S = ({ s.lst with index := Bo.st0, told := s.t5 } : TS) := ⟨_, rfl⟩
  rw [← hS2] at hg2
  have hp := lst_parts s
  have e0 : S2.nn = s.nn ∧ S2.lev = s.lev ∧ S2.cnt = s.cnt ∧ S2.least = s.least ∧ S2.most = s.most ∧ S2.keys = s.keys ∧ S2.told = s.t5 := by
    rw [hS2]
    unfold TS.lst
    split <;> exact ⟨rfl, rfl, rfl, rfl, rfl, rfl, rfl⟩
  obtain ⟨e1, e2, e3, e4, e5, e6, e7⟩ := e0
  obtain ⟨ta2, tc2, hT2⟩ := hg2.told_at
  rw [e7] at hT2
  have k17 := hT2.c17
  have hown2 := hT2.own
  rw [e7] at hown2
  obtain ⟨rv, hrs, hrc⟩ := bytes_rest hown2 tn hpre ht5
  have hR : bmk (s.t5.drop tn) = bmk (rest s) := by unfold rest; rw [htn]
  rw [hR] at hrc
  have d0 := hg2.cell 0 (fun _ => rfl)
  have d1 := hg2.cell 1 (fun _ => rfl)
  have d2 := hg2.cell 2 (fun _ => rfl)
  have d3 := hg2.cell 3 (fun _ => rfl)
  have d4 := hg2.cell 4 (fun _ => rfl)
  have d5 := hg2.cell 5 (fun _ => rfl)
  have d6 := hg2.cell 6 (fun _ => rfl)
  have d7 := hg2.cell 7 (fun _ => rfl)
  rw [e1] at d0
  rw [e2] at d1
  rw [e3] at d2
  rw [e4] at d6
  rw [e5] at d7
  have hg2a := hg2.below (box_below w2 tabX)
  have a0 := hg2a.cell 0 (fun _ => rfl)
  have a1 := hg2a.cell 1 (fun _ => rfl)
  have a2 := hg2a.cell 2 (fun _ => rfl)
  have a3 := hg2a.cell 3 (fun _ => rfl)
  have a4 := hg2a.cell 4 (fun _ => rfl)
  have a5 := hg2a.cell 5 (fun _ => rfl)
  have a6 := hg2a.cell 6 (fun _ => rfl)
  have a7 := hg2a.cell 7 (fun _ => rfl)
  rw [e1] at a0
  rw [e2] at a1
  rw [e3] at a2
  rw [e4] at a6
  rw [e5] at a7
  have k17a := (hT2.below (box_below w2 tabX)).c17
  have HC : ∀ W, Owns W base (.slice ta2 s.t5.length tc2) s.t5 → (convert 34 9 rv).run Tryd.prog W = .ok (.string (bmk (rest s))) W := fun W hW => by
    obtain ⟨rva, hrsa, hrca⟩ := bytes_rest hW tn hpre ht5
    obtain rfl : rva = rv := by
      have h1 := hrs W
      have h2 := hrsa W
      rw [h1] at h2
      simp only [Result.ok.injEq] at h2
      exact h2.1.symm
    rw [hR] at hrca
    exact hrca
  have hc1 := HC w2.drew (World.ownsRow.drew hown2)
  have hc2 := HC (w2.alloc tabX).drew (World.ownsRow.drew (Bo.ownsRow_below hown2 (box_below w2 tabX)))
  clear HC
  go_wp2_with fail
  obtain ⟨L2, eL, hb2, ht2, ho2⟩ := hg2
  obtain ⟨ka, kc, ekv⟩ : ∃ a c, L2.kv = .slice a S2.keys.length c := Bo.row_any hb2.keys
  rw [e6] at ekv
  obtain ⟨m, hm⟩ : ∃ m, s.keys.length = m + 1 := ⟨s.keys.length - 1, by have := List.length_pos_iff.2 hkn; omega⟩
  have hsee : SeesS w2 (.slice ka (m + 1) kc) s.keys := by
    have := hb2.keys.sees
    rwa [ekv, e6, hm] at this
  obtain ⟨-, kb, ko, hcell⟩ := hsee.get
  obtain ⟨hka, hkb, hk0⟩ := hcell 0 (by omega)
  obtain ⟨-, -, hkm⟩ := hcell m (by omega)
  subst hka
  rw [Nat.add_zero] at hk0
  have HF0 : Hid (s.keys.getD 0 ByteArray.empty = s.keys.headD ⟨#[]⟩) := Lib.hid (by cases s.keys <;> rfl)
  have HFM : Hid (s.keys.getD m ByteArray.empty = s.keys.getLastD ⟨#[]⟩) := Lib.hid (by
    rw [List.getD_eq_getElem?_getD, List.getLastD_eq_getLast?, List.getLast?_eq_getElem?, hm, Nat.add_sub_cancel]
    rfl)
  rw [HF0.out] at hk0
  rw [HFM.out] at hkm
  have hkf : (s.keys.headD ⟨#[]⟩).size ≤ 1000000 := hks _ (by cases hh : s.keys with
    | nil => exact absurd hh hkn
    | cons a r => simp)
  have hkl : (s.keys.getLastD ⟨#[]⟩).size ≤ 1000000 := hks _ (by
    rw [List.getLastD_eq_getLast?, List.getLast?_eq_some_getLast hkn]
    exact List.getLast_mem hkn)
  obtain ⟨FK, hFK⟩ : ∃ K, K = s.keys.headD ⟨#[]⟩ := ⟨_, rfl⟩
  obtain ⟨LK, hLK⟩ : ∃ K, K = s.keys.getLastD ⟨#[]⟩ := ⟨_, rfl⟩
  rw [← hFK] at hk0 hkf
  rw [← hLK] at hkm hkl
  have HFK := Lib.hid hFK; have HLK := Lib.hid hLK
  clear hFK hLK
  have HC1 := Lib.hid (fun W => clone_any FK W (by omega))
  have HC2 := Lib.hid (fun W => clone_any LK W (by omega))
  have hm9 : (m : Int) ≤ 1000000000 := by have := hf.k; omega
  have hw1 : IntKind.i64.wrap ((m : Int) + 1 - 1) = m := by rw [IntKind.wrap_i64]; omega
  have hm1 : (m : Int) + 1 - 1 = m := by omega
  have hwm : IntKind.i64.wrap (m : Int) = m := by rw [IntKind.wrap_i64]; omega
  have hz2 : (m : Int) < ((m + 1 : Nat) : Int) := by omega
  have hz3 : (m : Int) < (m : Int) + 1 := by omega
  have hz4 : (0 : Int) ≤ m := by omega
  have hz5 : m < m + 1 := by omega
  have hz6 : 0 < m + 1 := by omega
  have HB2 := Lib.hid hb2; have HT2 := Lib.hid ht2; have HO2 := Lib.hid ho2; have HEL := Lib.hid eL; have HEKV := Lib.hid ekv; have HM := Lib.hid hm
  have HLB : Hid (L.b < w2.heap.size) := Lib.hid hT2.lt
  have HH := Lib.hid h
  have HK0 : Hid (∀ W, Below w2.heap.size w2 W → W.cell? ⟨kb, ko, none⟩ = some (.string FK) ∧ W.cell? ⟨kb, ko + m, none⟩ = some (.string LK) ∧ W.cell? ⟨L.b, 8, none⟩ = some (.slice (some ⟨kb, ko, none⟩) (m + 1) kc) ∧ W.cell? ⟨L.b, 17, none⟩ = some (.slice ta2 s.t5.length tc2)) := Lib.hid (fun W hW =>
    ⟨(hW.cell (p := ⟨kb, ko, none⟩) hkb).trans hk0, (hW.cell (p := ⟨kb, ko + m, none⟩) hkb).trans hkm, by
      rw [← HEL.out, (HB2.out.below hW).cell 8]
      show some L2.kv = _
      rw [HEKV.out, HM.out], (hT2.below hW).c17⟩)
  clear h h0 hT hB hf hks hd hkn hpre htn c17 HET hp hS2 e1 e2 e3 e4 e5 e6 e7 hsee hcell hk0 hkm hkf hkl HF0 HFM hm hb2 ht2 ho2 eL ekv hR hg2a HB0 hW0 hown2 hT2
  go_region
  all_goals
    clear a0 a1 a2 a3 a4 a5 a6 a7 d0 d1 d2 d3 d4 d5 d6 d7 hc1 hc2 k17 k17a hrc hrs
    obtain ⟨W3, hW3⟩ : ∃ W3, W3 = (w2.alloc (.cells #[.int .u64 (s.nn : Int), .int .i64 s.lev, .int .i64 (s.cnt : Int), .int .i64 0, .string ⟨#[]⟩, .string ⟨#[]⟩, .int .u64 (s.least : Int), .int .u64 (s.most : Int)] 26)).drew := ⟨_, rfl⟩
    rw [← hW3]
    have hb3 : Below w2.heap.size w2 W3 := by rw [hW3]; exact (box_below _ _).drew
    have hx3 : W3.heap[w2.heap.size]? = some (.cells #[.int .u64 (s.nn : Int), .int .i64 s.lev, .int .i64 (s.cnt : Int), .int .i64 0, .string ⟨#[]⟩, .string ⟨#[]⟩, .int .u64 (s.least : Int), .int .u64 (s.most : Int)] 26 (0, 0)) := by rw [hW3]; exact heap_alloc_new w2 _
    clear hW3
    obtain ⟨-, -, -, k17⟩ := HK0.out _ hb3
    have c3 : W3.cell? ⟨w2.heap.size, 3, none⟩ = some (.int .i64 0) := by rw [cell_of hx3]; rfl
    have f3 := Bo.unfrozen_of hx3 3
    obtain ⟨W4, hW4⟩ : ∃ W4, W4 = W3.setCell ⟨w2.heap.size, 3, none⟩ (.int .i64 (s.t5.length : Int)) := ⟨_, rfl⟩
    have hb4 : Below w2.heap.size w2 W4 := by rw [hW4]; exact hb3.setCell (Nat.le_refl _) _
    have hx4 : W4.heap[w2.heap.size]? = some (.cells #[.int .u64 (s.nn : Int), .int .i64 s.lev, .int .i64 (s.cnt : Int), .int .i64 (s.t5.length : Int), .string ⟨#[]⟩, .string ⟨#[]⟩, .int .u64 (s.least : Int), .int .u64 (s.most : Int)] 26 (0, 0)) := by rw [hW4, heap_setCell_same W3 _ 3 _ _ _ hx3]; rfl
    obtain ⟨j0, -, j8, -⟩ := HK0.out _ hb4
    rw [hW4] at j0 j8
    have HX4 := Lib.hid hx4; have HB4 := Lib.hid hb4
    clear hx3 hx4 hb3 hb4
    go_wp2_with fail
    rw [← hW4]
    refine (HC1.out _).mono ?_
    rintro x w5 ⟨rfl, hb5'⟩
    have hx5 := (hb5'.block _ (heap_lt HX4.out)).trans HX4.out
    have hb5 := HB4.out.trans (hb5'.mono HB4.out.size)
    have c4 : w5.cell? ⟨w2.heap.size, 4, none⟩ = some (.string ⟨#[]⟩) := by rw [cell_of hx5]; rfl
    have f4 := Bo.unfrozen_of hx5 4
    obtain ⟨W6, hW6⟩ : ∃ W6, W6 = w5.setCell ⟨w2.heap.size, 4, none⟩ (.string FK) := ⟨_, rfl⟩
    have hb6 : Below w2.heap.size w2 W6 := by rw [hW6]; exact hb5.setCell (Nat.le_refl _) _
    have hx6 : W6.heap[w2.heap.size]? = some (.cells #[.int .u64 (s.nn : Int), .int .i64 s.lev, .int .i64 (s.cnt : Int), .int .i64 (s.t5.length : Int), .string FK, .string ⟨#[]⟩, .int .u64 (s.least : Int), .int .u64 (s.most : Int)] 26 (0, 0)) := by rw [hW6, heap_setCell_same w5 _ 4 _ _ _ hx5]; rfl
    obtain ⟨-, i0, i8, -⟩ := HK0.out _ hb6
    rw [hW6] at i0 i8
    have HX6 := Lib.hid hx6; have HB6 := Lib.hid hb6
    clear hx5 hx6 hb5 hb5' hb6 j0 j8 c3 f3 k17 HX4 HB4 hW4
    go_wp2_with fail
    rw [← hW6] at i0 i8 ⊢
    clear hW6 c4 f4
    go_cut [] from 58 to 71 (fun wr => Hid (Below w2.heap.size w2 wr ∧ wr.heap[w2.heap.size]? = some (.cells #[.int .u64 (s.nn : Int), .int .i64 s.lev, .int .i64 (s.cnt : Int), .int .i64 (s.t5.length : Int), .string FK, .string LK, .int .u64 (s.least : Int), .int .u64 (s.most : Int)] 26 (0, 0))))
    case first =>
      go_region_law (first
        | (go_simp; go_at_call 26; refine (HC2.out _).mono ?_; rintro x w7 ⟨rfl, hb7'⟩
           have hb7 : Below W6.heap.size W6 w7 := by first | exact Bo.undrew hb7' | exact hb7'
           have hx7 := (hb7.block _ (heap_lt HX6.out)).trans HX6.out
           have c5 : w7.cell? ⟨w2.heap.size, 5, none⟩ = some (.string ⟨#[]⟩) := by rw [cell_of hx7]; rfl
           have f5 := Bo.unfrozen_of hx7 5))
      all_goals
        have HR7 : Hid (Below w2.heap.size w2 (w7.setCell ⟨w2.heap.size, 5, none⟩ (.string LK)) ∧ (w7.setCell ⟨w2.heap.size, 5, none⟩ (.string LK)).heap[w2.heap.size]? = some (.cells #[.int .u64 (s.nn : Int), .int .i64 s.lev, .int .i64 (s.cnt : Int), .int .i64 (s.t5.length : Int), .string FK, .string LK, .int .u64 (s.least : Int), .int .u64 (s.most : Int)] 26 (0, 0))) := Lib.hid ⟨(HB6.out.trans (hb7.mono HB6.out.size)).setCell (Nat.le_refl _) _, by rw [heap_setCell_same w7 _ 5 _ _ _ hx7]; rfl⟩
        go_wp2_with fail
        go_meet
        case rel => exact HR7
    case rest =>
      obtain ⟨hbc, hxc⟩ := hcut.out
      have HBC := Lib.hid hbc; have HXC := Lib.hid hxc
      clear hcut HX6 HB6 i0 i8
      have HGC : Hid (GoesT base L (w.alloc tabX) S2 wc) := Lib.hid ⟨L2, HEL.out, HB2.out.below hbc, HT2.out.below hbc, HO2.out⟩
      have HBLT : Hid (L.b < w.heap.size) := Lib.hid (heap_lt HH.out.box)
      have hth : wc.there L.b 0 20 := fun j hj => by
        rw [Nat.zero_add, ← HEL.out]
        refine ⟨?_, (HB2.out.below HBC.out).soft j⟩
        rw [(HB2.out.below HBC.out).cell j, Array.getElem?_eq_getElem (by exact hj)]
        rfl
      have HTH := Lib.hid hth
      clear hbc hxc hth
      go_wp2_with (refine wpList_store_mid (by rfl) 66 _ _ (by rfl) L.b 0 #[.int .u64 0, .int .i64 0, .int .i64 0, .int .i64 0, .string ⟨#[]⟩, .string ⟨#[]⟩, .int .u64 0, .int .u64 0, .slice none 0 0, .slice none 0 0, .slice none 0 0, .int .i64 0, .string ⟨#[]⟩, .slice none 0 0, .slice none 0 0, .int .i64 0, .string ⟨#[]⟩, .slice none 0 0, .string ⟨#[]⟩, .bool true] (by rfl) (by rfl) HTH.out (by kernel_rfl) (by simp [Value.oneCell']) ?_)
      obtain ⟨W8, hW8⟩ : ∃ W8, W8 = wc.setCells L.b 0 [.int .u64 0, .int .i64 0, .int .i64 0, .int .i64 0, .string ⟨#[]⟩, .string ⟨#[]⟩, .int .u64 0, .int .u64 0, .slice none 0 0, .slice none 0 0, .slice none 0 0, .int .i64 0, .string ⟨#[]⟩, .slice none 0 0, .slice none 0 0, .int .i64 0, .string ⟨#[]⟩, .slice none 0 0, .string ⟨#[]⟩, .bool true] := ⟨_, rfl⟩
      rw [← hW8]
      have e8 : W8 = allT wc L.b := by rw [hW8, allT_is, stores_cells]
      have hg8 : GoesT base L (w.alloc tabX) doneT W8 := by rw [e8]; exact HGC.out.clear
      have ht8 : Turns (fun k => k = L.b) wc W8 := by rw [e8]; exact allT_turns wc L.b
      have hnL : L.b < w2.heap.size := HLB.out
      have hKc : w2.heap.size < wc.heap.size := heap_lt HXC.out
      have hx8 := (ht8.block _ hKc (by omega)).trans HXC.out
      have hno : ¬ OwnT L w.heap.size := fun hk => by have := HH.out.own_lt hk; omega
      have hr8 : W8.heap[w.heap.size]? = some tabX := (hg8.far (by simp) hno).trans (heap_alloc_new w _)
      clear hW8 e8
      have g0 : W8.cell? ⟨w2.heap.size, 0, none⟩ = some (.int .u64 (s.nn : Int)) := by rw [cell_of hx8]; rfl
      have g1 : W8.cell? ⟨w2.heap.size, 1, none⟩ = some (.int .i64 s.lev) := by rw [cell_of hx8]; rfl
      have g2 : W8.cell? ⟨w2.heap.size, 2, none⟩ = some (.int .i64 (s.cnt : Int)) := by rw [cell_of hx8]; rfl
      have g3 : W8.cell? ⟨w2.heap.size, 3, none⟩ = some (.int .i64 (s.t5.length : Int)) := by rw [cell_of hx8]; rfl
      have g4 : W8.cell? ⟨w2.heap.size, 4, none⟩ = some (.string FK) := by rw [cell_of hx8]; rfl
      have g5 : W8.cell? ⟨w2.heap.size, 5, none⟩ = some (.string LK) := by rw [cell_of hx8]; rfl
      have g6 : W8.cell? ⟨w2.heap.size, 6, none⟩ = some (.int .u64 (s.least : Int)) := by rw [cell_of hx8]; rfl
      have g7 : W8.cell? ⟨w2.heap.size, 7, none⟩ = some (.int .u64 (s.most : Int)) := by rw [cell_of hx8]; rfl
      have r0 : W8.cell? ⟨w.heap.size, 0, none⟩ = some (.int .u64 0) := by rw [cell_of hr8]; rfl
      have q0 := Bo.unfrozen_of hr8 0
      have r1 : W8.cell? ⟨w.heap.size, 1, none⟩ = some (.int .i64 0) := by rw [cell_of hr8]; rfl
      have q1 := Bo.unfrozen_of hr8 1
      have r2 : W8.cell? ⟨w.heap.size, 2, none⟩ = some (.int .i64 0) := by rw [cell_of hr8]; rfl
      have q2 := Bo.unfrozen_of hr8 2
      have r3 : W8.cell? ⟨w.heap.size, 3, none⟩ = some (.int .i64 0) := by rw [cell_of hr8]; rfl
      have q3 := Bo.unfrozen_of hr8 3
      have r4 : W8.cell? ⟨w.heap.size, 4, none⟩ = some (.string ⟨#[]⟩) := by rw [cell_of hr8]; rfl
      have q4 := Bo.unfrozen_of hr8 4
      have r5 : W8.cell? ⟨w.heap.size, 5, none⟩ = some (.string ⟨#[]⟩) := by rw [cell_of hr8]; rfl
      have q5 := Bo.unfrozen_of hr8 5
      have r6 : W8.cell? ⟨w.heap.size, 6, none⟩ = some (.int .u64 0) := by rw [cell_of hr8]; rfl
      have q6 := Bo.unfrozen_of hr8 6
      have r7 : W8.cell? ⟨w.heap.size, 7, none⟩ = some (.int .u64 0) := by rw [cell_of hr8]; rfl
      have q7 := Bo.unfrozen_of hr8 7
      have HG8 := Lib.hid hg8; have HT8 := Lib.hid ht8; have HR8 := Lib.hid hr8
      clear hg8 ht8 hx8 hr8 hno hnL hKc
      go_region
      all_goals
        go_wp2_with fail
        refine bodyPost_ret (v := .tuple #[.string (bmk (rest s)), tabV s s.t5.length FK LK, .int .i64 0]) (by simp [results, Tryd.results9, go_sem, r0, r1, r2, r3, r4, r5, r6, r7]) rfl ⟨?_, ?_⟩
        · rw [HFK.out, HLK.out]
        · refine GoesT.done_box HG8.out (fun hk => by have := HH.out.own_lt hk; omega) ?_
          refine Bo.Turns.drew ?_
          iterate 8 (refine Bo.Turns.set ?_ _ _ rfl)
          exact Bo.Turns.refl _ _
end Go.Proofs.YtphoihkbdogkhaaDoor.Bn.Tw

/- The walks of table's entries, All. -/
namespace Go.Proofs.YtphoihkbdogkhaaDoor.Bn.Tw
open Go Go.RowKit Go.Proofs.YtphoihkbdogkhaaDoor.Tb
open Go.Proofs.YtphoihkbdogkhaaDoor.Bn.Bo (Blk heap_lt cell_of)
set_option linter.unusedVariables false
set_option maxRecDepth 100000

/-- Entries of blocks from a place on. -/
def fromT (l : List (List En)) (i j : Nat) : List En := match l.drop i with
  | [] => []
  | b :: r => b.drop j ++ r.flatten
theorem fromT_end {l : List (List En)} {i : Nat} (j : Nat) (h : l.length ≤ i) : fromT l i j = [] := by unfold fromT; rw [List.drop_of_length_le h]
theorem fromT_at {l : List (List En)} {i : Nat} (j : Nat) {b : List En} (h : l[i]? = some b) : fromT l i j = b.drop j ++ (l.drop (i + 1)).flatten := by
  obtain ⟨hlt, e⟩ := List.getElem?_eq_some_iff.1 h
  unfold fromT
  rw [List.drop_eq_getElem_cons hlt, e]
theorem fromT_next {l : List (List En)} {i j : Nat} {b : List En} (h : l[i]? = some b) (hj : b.length ≤ j) : fromT l i j = fromT l (i + 1) 0 := by
  rw [fromT_at j h, List.drop_of_length_le hj, List.nil_append]
  by_cases h2 : l.length ≤ i + 1
  · rw [fromT_end 0 h2, List.drop_of_length_le h2]; rfl
  · have hlt : i + 1 < l.length := by omega
    rw [fromT_at 0 (List.getElem?_eq_getElem hlt), List.drop_zero, List.drop_eq_getElem_cons hlt]
    rfl
theorem fromT_step {l : List (List En)} {i j : Nat} {b : List En} {x : En} (h : l[i]? = some b) (hj : b[j]? = some x) : fromT l i j = x :: fromT l i (j + 1) := by
  obtain ⟨hlt, e⟩ := List.getElem?_eq_some_iff.1 hj
  rw [fromT_at j h, fromT_at (j + 1) h, List.drop_eq_getElem_cons hlt, e]
  rfl
theorem fromT_zero (l : List (List En)) : fromT l 0 0 = l.flatten := by
  unfold fromT
  cases l <;> simp
theorem flatten_drop_le (l : List (List En)) (i : Nat) : (l.drop i).flatten.length ≤ l.flatten.length := by
  have h := congrArg List.length (congrArg List.flatten (List.take_append_drop i l))
  rw [List.flatten_append, List.length_append] at h
  omega
theorem fromT_le (l : List (List En)) (i j : Nat) : (fromT l i j).length ≤ l.flatten.length := by
  have := flatten_drop_le l i
  unfold fromT
  cases h : l.drop i with
  | nil => simp
  | cons b r =>
    rw [h] at this
    simp only [List.flatten_cons, List.length_append, List.length_drop] at this ⊢
    omega
/-- Whether a key is below one (none: no end). -/
def okTo (tk : ByteArray) (e : Ent) : Bool := decide (tk.size = 0) || less e.key tk
def untilT (tk : ByteArray) (l : List Ent) : List Ent := l.takeWhile (okTo tk)
theorem takeWhile_all {α : Type} {p : α → Bool} : ∀ {l : List α}, (∀ x ∈ l, p x = true) → l.takeWhile p = l
  | [], _ => rfl
  | a :: l, h => by rw [List.takeWhile_cons, if_pos (h a (by simp)), takeWhile_all (fun x hx => h x (by simp [hx]))]
/-- Entries come back, in memory of the call's own. -/
def EntsBack (l : List Ent) (w : World) (x : Ending) (w' : World) : Prop := ∃ v, x = .returned v ∧ OwnsE w' w.heap.size v l ∧ Below w.heap.size w w'
set_option maxHeartbeats 4000000 in
theorem entries_any {w : World} {base p : Nat} {f : ByteArray} {ix : BL1} {bv : Value} {l : List BL1} (h : Tab1 w base p f ix bv l) (hs : Small l) (hN : (l.map BL1.es).flatten.length ≤ 1000000000) (i0 j0 : Nat) (hi0 : i0 ≤ 1000000) (hj0 : j0 ≤ 1000000) (tk : ByteArray) :
    Calls Tryd.prog 38 #[.pointer (some ⟨p, 0, none⟩), .int .i64 (i0 : Int), .int .i64 (j0 : Int), .string tk] w (EntsBack (untilT tk ((fromT (l.map BL1.es) i0 j0).map entOf)) w) := by
  obtain ⟨i1, hi, hz0, hz1, hz2⟩ := info_parts info_ent
  obtain ⟨a, c, rfl⟩ := h.blks.shape
  obtain ⟨X, hX⟩ : ∃ X, X = untilT tk ((fromT (l.map BL1.es) i0 j0).map entOf) := ⟨_, rfl⟩
  have HX := Lib.hid hX
  rw [← hX]
  have HXL : Hid (∀ A : List Ent, A <+: X → A.length ≤ 1000000000) := Lib.hid (fun A hA => by
    have h1 := hA.length_le
    have h2 := (List.takeWhile_prefix (p := okTo tk) (l := (fromT (l.map BL1.es) i0 j0).map entOf)).length_le
    have h3 := fromT_le (l.map BL1.es) i0 j0
    rw [List.length_map] at h2
    rw [hX] at h1
    have h4 : (untilT tk ((fromT (l.map BL1.es) i0 j0).map entOf)).length ≤ (fromT (l.map BL1.es) i0 j0).length := h2
    omega)
  have HH := Lib.hid h; have HS := Lib.hid hs
  have HC2 : Hid (∀ W, Below w.heap.size w W → W.cell? ⟨p, 2, none⟩ = some (.slice a l.length c)) := Lib.hid (fun W hW => by rw [cell_of (h.below hW).box]; rfl)
  clear h hs hX hN
  go_enter Tryd.func38, Tryd.ntmps38
  go_wp2_with fail
  go_loopw [1, 2, 9] (fun i j u wr => ∃ (k m : Nat) (A : List Ent), i = .int .i64 (k : Int) ∧ j = .int .i64 (m : Int) ∧ k ≤ 1000001 ∧ m ≤ 1000001 ∧ Hid (OwnsE wr w.heap.size u A ∧ X = A ++ untilT tk ((fromT (l.map BL1.es) k m).map entOf) ∧ Below w.heap.size w wr)) (fun i _ _ _ => l.length - (intOf i).toNat)
  case atStart => exact ⟨i0, j0, [], rfl, rfl, by omega, by omega, Lib.hid ⟨OwnsE.nil _ _, by rw [HX.out]; rfl, Below.refl _ _⟩⟩
  case round =>
    obtain ⟨k, m, A, rfl, rfl, hk9, hm9, HI⟩ := hrel
    have c2 := HC2.out _ HI.out.2.2
    by_cases hkl : k < l.length
    · have hkl' : (k : Int) < l.length := by omega
      obtain ⟨x, hx⟩ : ∃ x, l[k]? = some x := ⟨_, List.getElem?_eq_getElem hkl⟩
      have hxm := List.mem_of_getElem? hx
      have hk10 : k ≤ 1000000 := by have := HS.out.n; omega
      have HES : Hid ((l.map BL1.es)[k]? = some x.es) := Lib.hid (by rw [List.getElem?_map, hx]; rfl)
      have HXR : Hid (x.es.length = x.rs.length) := Lib.hid (List.length_map _)
      have HRN := Lib.hid (HS.out.r x hxm)
      obtain ⟨g, ha, hg, cg⟩ := HH.out.blks.at hx
      subst ha
      have HC3 : Hid (∀ W, Below w.heap.size w W → W.cell? ⟨g, k, none⟩ = some (.pointer (some ⟨x.p, 0, none⟩))) := Lib.hid (fun W hW => (hW.cell (p := ⟨g, k, none⟩) hg).trans cg)
      have HLEN : Hid (∀ W, Below w.heap.size w W → Calls Tryd.prog 67 #[.pointer (some ⟨x.p, 0, none⟩)] W fun e w' => e = .returned (.int .i64 (x.rs.length : Int)) ∧ W = w') := Lib.hid (fun W hW => Bo.len_any ((HH.out.below hW).blks.blk x hxm))
      have HEA : Hid (∀ W j, Below w.heap.size w W → Calls Tryd.prog 34 #[.pointer (some ⟨x.p, 0, none⟩), .int .i64 ((j : Nat) : Int)] W (Gives (enV (entAt x.es j)) W)) := Lib.hid (fun W j hW => entryAt_any ((HH.out.below hW).blks.blk x hxm) j (HS.out.z x hxm))
      clear cg hg hx hxm
      generalize hln : l.length = ln at *
      have HLN := Lib.hid hln; clear hln
      go_wp2_with fail
      go_loopw [2, 9] (fun j u wr2 => ∃ (m : Nat) (A : List Ent), j = .int .i64 (m : Int) ∧ m ≤ 1000001 ∧ Hid (OwnsE wr2 w.heap.size u A ∧ X = A ++ untilT tk ((fromT (l.map BL1.es) k m).map entOf) ∧ Below w.heap.size w wr2)) (fun j _ _ => x.rs.length - (intOf j).toNat)
      case atStart => exact ⟨m, A, rfl, hm9, HI⟩
      case round =>
        clear HI hm9 c2
        obtain ⟨m, A, rfl, hm9, HI⟩ := hrel
        have HBW := Lib.hid HI.out.2.2
        have c2 := HC2.out _ HBW.out
        have c3 := HC3.out _ HBW.out
        by_cases hml : m < x.rs.length
        · have hml' : (m : Int) < x.rs.length := by omega
          obtain ⟨y, hy⟩ : ∃ y, x.es[m]? = some y := ⟨_, List.getElem?_eq_getElem (by rw [HXR.out]; exact hml)⟩
          have HST : Hid (fromT (l.map BL1.es) k m = y :: fromT (l.map BL1.es) k (m + 1)) := Lib.hid (fromT_step HES.out hy)
          obtain ⟨E, hE⟩ : ∃ E, E = entOf y := ⟨_, rfl⟩
          have HE0 := Lib.hid hE
          have hea : entAt x.es m = E := by unfold entAt; rw [hy, hE]
          have HEM := Lib.hid (fun W hW => HEA.out W m hW)
          rw [hea] at HEM
          obtain ⟨EK, EV, EQ, EG⟩ := E
          clear hy hE hea
          obtain ⟨ua, uc, hu⟩ := Bo.row_any HI.out.1
          subst hu
          generalize hrl : x.rs.length = rl at *
          go_wp2_with fail
          refine (HLEN.out _ HBW.out).mono ?_
          rintro e w1 ⟨rfl, rfl⟩
          go_wp2_with fail
          refine (HEM.out _ HBW.out).mono ?_
          rintro e w2 ⟨rfl, hb2⟩
          have HB2 := Lib.hid hb2
          clear hb2
          dsimp only [enV]
          by_cases ht : tk.size = 0
          · have e1 := isEmpty_of_nil ht
            have HOK : Hid (okTo tk ⟨EK, EV, EQ, EG⟩ = true) := Lib.hid (by unfold okTo; rw [decide_eq_true ht]; rfl)
            clear ht
            have hpre : X = (A ++ [⟨EK, EV, EQ, EG⟩]) ++ untilT tk ((fromT (l.map BL1.es) k (m + 1)).map entOf) := by
              rw [HI.out.2.1, HST.out, List.map_cons, ← HE0.out]
              unfold untilT
              rw [List.takeWhile_cons, if_pos HOK.out, List.append_assoc]
              rfl
            have HXN := Lib.hid hpre
            have HAL : Hid (A.length ≤ 1000000000) := Lib.hid (HXL.out A ⟨_, HI.out.2.1.symm⟩)
            have hraw : w2.ownsRow w.heap.size 33 4 (.slice ua A.length uc) A.length (rowCells A) := Bo.ownsRow_below HI.out.1 HB2.out
            clear hpre
            go_wp2_with (at_builtin; go_must (refine wpList_append_own _ rfl _ _ 41 rfl w.heap.size 33 i1 _ 4 48 Tryd.underlying41 hi hz0 hz1 hz2 rfl (by decide) _ _ _ rfl ((hraw.alloc _).alloc _) ⟨w2.heap.size + 1, 0, none⟩ 1 1 [.string EK, .string EV, .int .u64 (EQ : Int), .bool EG] rfl rfl (World.news_of_block (cs := #[.string EK, .string EV, .int .u64 (EQ : Int), .bool EG]) (t := 33) (fr := (0, 0)) (heap_new2' w2 _ _)) ?c2 ?c3 ?c4 ?c5 ?_))
            case c2 => intro v hv; simp at hv; rcases hv with hv | hv | hv | hv <;> subst hv <;> rfl
            case c3 => have := HAL.out; unfold maxLen; omega
            case c4 => have := HAL.out; omega
            case c5 => have := HBW.out.size; have := HB2.out.size; simp; omega
            intro v3 w3 hown3 hgrow3 _
            have R3 : OwnsE w3 w.heap.size v3 (A ++ [⟨EK, EV, EQ, EG⟩]) ∧ Below w.heap.size w w3 := by
              refine ⟨OwnsE.snoc hown3, ?_⟩
              have hb12 : Below w.heap.size w w2 := HBW.out.trans (HB2.out.mono HBW.out.size)
              exact ((hb12.alloc hb12.size _).alloc (by have := hb12.size; simp; omega) _).grown hgrow3 (by have := hb12.size; simp; omega) (fun j hj => (World.ownsRow.lt hraw j hj).1)
            have HR3 := Lib.hid R3
            clear R3 hown3 hgrow3 hraw
            go_wp2_with fail
            go_roundw
            case rel => exact ⟨m + 1, A ++ [⟨EK, EV, EQ, EG⟩], by go_num, by have := HRN.out; omega, Lib.hid ⟨HR3.out.1, HXN.out, HR3.out.2⟩⟩
            case measure => simp [intOf]; omega
          · have e1 := isEmpty_pos ht
            cases hl : less EK tk with
            | true =>
              obtain ⟨q1, q2⟩ := Bo.bl_leq hl
              have q3 : Op.bytesLess EK.toList tk.toList = true := by rw [ByteArray.toList_eq, ByteArray.toList_eq]; exact hl
              have q4 : (EK.toList == tk.toList) = false := by
                rw [beq_eq_false_iff_ne] at q2 ⊢
                exact fun e => q2 e.symm
              have HOK : Hid (okTo tk ⟨EK, EV, EQ, EG⟩ = true) := Lib.hid (by unfold okTo; rw [hl, Bool.or_true])
              clear ht hl
              have hpre : X = (A ++ [⟨EK, EV, EQ, EG⟩]) ++ untilT tk ((fromT (l.map BL1.es) k (m + 1)).map entOf) := by
                rw [HI.out.2.1, HST.out, List.map_cons, ← HE0.out]
                unfold untilT
                rw [List.takeWhile_cons, if_pos HOK.out, List.append_assoc]
                rfl
              have HXN := Lib.hid hpre
              have HAL : Hid (A.length ≤ 1000000000) := Lib.hid (HXL.out A ⟨_, HI.out.2.1.symm⟩)
              have hraw : w2.ownsRow w.heap.size 33 4 (.slice ua A.length uc) A.length (rowCells A) := Bo.ownsRow_below HI.out.1 HB2.out
              clear hpre
              go_wp2_with (at_builtin; go_must (refine wpList_append_own _ rfl _ _ 41 rfl w.heap.size 33 i1 _ 4 48 Tryd.underlying41 hi hz0 hz1 hz2 rfl (by decide) _ _ _ rfl ((hraw.alloc _).alloc _) ⟨w2.heap.size + 1, 0, none⟩ 1 1 [.string EK, .string EV, .int .u64 (EQ : Int), .bool EG] rfl rfl (World.news_of_block (cs := #[.string EK, .string EV, .int .u64 (EQ : Int), .bool EG]) (t := 33) (fr := (0, 0)) (heap_new2' w2 _ _)) ?c2 ?c3 ?c4 ?c5 ?_))
              case c2 => intro v hv; simp at hv; rcases hv with hv | hv | hv | hv <;> subst hv <;> rfl
              case c3 => have := HAL.out; unfold maxLen; omega
              case c4 => have := HAL.out; omega
              case c5 => have := HBW.out.size; have := HB2.out.size; simp; omega
              intro v3 w3 hown3 hgrow3 _
              have R3 : OwnsE w3 w.heap.size v3 (A ++ [⟨EK, EV, EQ, EG⟩]) ∧ Below w.heap.size w w3 := by
                refine ⟨OwnsE.snoc hown3, ?_⟩
                have hb12 : Below w.heap.size w w2 := HBW.out.trans (HB2.out.mono HBW.out.size)
                exact ((hb12.alloc hb12.size _).alloc (by have := hb12.size; simp; omega) _).grown hgrow3 (by have := hb12.size; simp; omega) (fun j hj => (World.ownsRow.lt hraw j hj).1)
              have HR3 := Lib.hid R3
              clear R3 hown3 hgrow3 hraw
              go_wp2_with fail
              go_roundw
              case rel => exact ⟨m + 1, A ++ [⟨EK, EV, EQ, EG⟩], by go_num, by have := HRN.out; omega, Lib.hid ⟨HR3.out.1, HXN.out, HR3.out.2⟩⟩
              case measure => simp [intOf]; omega
            | false =>
              have q3 : Op.bytesLess EK.toList tk.toList = false := by rw [ByteArray.toList_eq, ByteArray.toList_eq]; exact hl
              have HXE : Hid (X = A) := Lib.hid (by
                rw [HI.out.2.1, HST.out, List.map_cons, ← HE0.out]
                unfold untilT
                rw [List.takeWhile_cons, if_neg (by unfold okTo; rw [hl, decide_eq_false ht]; decide)]
                simp)
              have HAO : Hid (OwnsE (w2.alloc (entX ⟨EK, EV, EQ, EG⟩)) w.heap.size (.slice ua A.length uc) A ∧ Below w.heap.size w (w2.alloc (entX ⟨EK, EV, EQ, EG⟩))) := Lib.hid (by
                have hb12 : Below w.heap.size w w2 := HBW.out.trans (HB2.out.mono HBW.out.size)
                exact ⟨(HI.out.1.below HB2.out).below (box_below _ _), hb12.alloc hb12.size _⟩)
              rcases Bo.bl_geq hl with q1 | ⟨q1, q2⟩
              all_goals
                go_wp2_with fail
                go_ret
                rw [HXE.out]
                exact ⟨_, rfl, HAO.out.1, HAO.out.2⟩
        · have hml' : ¬ (m : Int) < x.rs.length := by omega
          have HNX : Hid (fromT (l.map BL1.es) k m = fromT (l.map BL1.es) (k + 1) 0) := Lib.hid (fromT_next HES.out (by rw [HXR.out]; omega))
          generalize hrl : x.rs.length = rl at *
          go_wp2_with fail
          refine (HLEN.out _ HBW.out).mono ?_
          rintro e w1 ⟨rfl, rfl⟩
          go_wp2_with fail
          go_roundw
          case rel => exact ⟨k + 1, 0, A, by go_num, rfl, by omega, by omega, Lib.hid ⟨HI.out.1, by rw [← HNX.out]; exact HI.out.2.1, HI.out.2.2⟩⟩
          case measure => simp [intOf]; omega
    · have hkl' : ¬ (k : Int) < l.length := by omega
      have HE : Hid (X = A) := Lib.hid (by rw [HI.out.2.1, fromT_end m (by rw [List.length_map]; omega)]; simp [untilT])
      go_wp2_with fail
      go_ret
      rw [HE.out]
      exact ⟨_, rfl, HI.out.1, HI.out.2.2⟩
theorem all_any {w : World} {base p : Nat} {f : ByteArray} {ix : BL1} {bv : Value} {l : List BL1} (h : Tab1 w base p f ix bv l) (hs : Small l) (hN : (l.map BL1.es).flatten.length ≤ 1000000000) :
    Calls Tryd.prog 14 #[.pointer (some ⟨p, 0, none⟩)] w (EntsBack (Tb.all (tOf f ix l)) w) := by
  have HE := Lib.hid (entries_any h hs hN 0 0 (by omega) (by omega) ⟨#[]⟩)
  have e : untilT ⟨#[]⟩ ((fromT (l.map BL1.es) 0 0).map entOf) = Tb.all (tOf f ix l) := by
    rw [fromT_zero]
    unfold untilT Tb.all
    exact takeWhile_all (fun x _ => rfl)
  rw [e] at HE
  clear e h hs hN
  go_enter Tryd.func14, Tryd.ntmps14
  go_wp2_with fail
  refine HE.out.mono ?_
  rintro x w1 ⟨v, rfl, h1, h2⟩
  go_wp2_with fail
  go_ret
  exact ⟨v, rfl, h1, h2⟩
theorem all_nil (w : World) : Calls Tryd.prog 14 #[.pointer none] w fun x w' => x = .returned (.slice none 0 0) ∧ w = w' := by
  go_enter Tryd.func14, Tryd.ntmps14
  go_wp2_with fail
  go_ret
  exact ⟨rfl, rfl⟩
end Go.Proofs.YtphoihkbdogkhaaDoor.Bn.Tw

/- The walk of table's build. -/
namespace Go.Proofs.YtphoihkbdogkhaaDoor.Bn.Tw
open Go Go.RowKit Go.Proofs.YtphoihkbdogkhaaDoor.Tb
open Go.Proofs.YtphoihkbdogkhaaDoor.Bn.Bo (Turns heap_lt cell_of)
set_option linter.unusedVariables false
set_option maxRecDepth 100000

theorem fits_inv {s : TS} {l : List Ent} {n : Nat} (h : Inv s l) (g : Tb.Good l) (hl : l.length ≤ n) : Fits s n := by
  obtain ⟨g1, g2⟩ := cut_good g
  have hc := congrArg List.length (cut_flat l)
  rw [List.length_append] at hc
  obtain ⟨d1, d2⟩ := datas_le (cut l).1 (cut_ne l) g2.ok
  have hk := keysOf_length l
  refine ⟨?_, ?_, ?_, ?_, ?_, ?_, ?_⟩
  · rw [h.data]
    exact Bo.sound_run _ _ Bo.sound0 (goodb_ents g1)
  · rw [h.index]
    exact Bo.sound_run _ _ Bo.sound0 (goodb_idx (cut_ne l) g2)
  · rw [h.data, run_n0, List.length_map]; omega
  · rw [h.index, run_n0, idxF_length]; omega
  · rw [h.told]; omega
  · rw [h.cnt]; exact hl
  · rw [h.keys]; omega
def runT (s : TS) (l : List Ent) : TS := l.foldl addS s
theorem runT_snoc (s : TS) (l : List Ent) (e : Ent) : runT s (l ++ [e]) = addS (runT s l) e := by unfold runT; rw [List.foldl_append]; rfl
theorem goodT_snoc : ∀ (l : List Ent) (s : TS) (e : Ent), goodT s (l ++ [e]) = (goodT s l && decide (errE (runT s l) e = 0))
  | [], s, e => by rw [List.nil_append, goodT, goodT, goodT, Bool.and_true, Bool.true_and]; rfl
  | a :: l, s, e => by rw [List.cons_append, goodT, goodT_snoc l, goodT, Bool.and_assoc]; rfl
theorem goodT_append : ∀ (a b : List Ent) (s : TS), goodT s (a ++ b) = (goodT s a && goodT (runT s a) b)
  | [], b, s => by rw [List.nil_append, goodT, Bool.true_and]; rfl
  | e :: a, b, s => by rw [List.cons_append, goodT, goodT_append a, goodT, Bool.and_assoc]; rfl
theorem runT_inv : ∀ (l : List Ent) {s : TS} {p : List Ent}, Inv s p → Tb.Good p → goodT s l = true → Inv (runT s l) (p ++ l) ∧ Tb.Good (p ++ l)
  | [], s, p, h, g, _ => by rw [List.append_nil]; exact ⟨h, g⟩
  | e :: l, s, p, h, g, ht => by
    rw [goodT, Bool.and_eq_true, decide_eq_true_eq] at ht
    obtain ⟨g2, h2, _⟩ := inv_step h g ht.1
    have := runT_inv l h2 g2 ht.2
    rwa [List.append_assoc] at this
theorem rowCells_at : ∀ (l : List Ent) (i : Nat) (e : Ent), l[i]? = some e → (rowCells l)[i * 4]? = some (.string e.key) ∧ (rowCells l)[i * 4 + 1]? = some (.string e.val) ∧ (rowCells l)[i * 4 + 2]? = some (.int .u64 (e.seq : Int)) ∧ (rowCells l)[i * 4 + 3]? = some (.bool e.gone)
  | [], _, _, h => by simp at h
  | a :: l, 0, e, h => by
    simp only [List.getElem?_cons_zero, Option.some.injEq] at h
    subst h
    simp [rowCells, entCells]
  | a :: l, i + 1, e, h => by
    simp only [List.getElem?_cons_succ] at h
    have h0 := rowCells_at l i e h
    have e2 : ∀ j, (rowCells (a :: l))[(i + 1) * 4 + j]? = (rowCells l)[i * 4 + j]? := by
      intro j
      show (entCells a ++ rowCells l)[(i + 1) * 4 + j]? = _
      rw [List.getElem?_append_right (by simp; omega)]
      congr 1
      simp; omega
    exact ⟨(e2 0).trans h0.1, (e2 1).trans h0.2.1, (e2 2).trans h0.2.2.1, (e2 3).trans h0.2.2.2⟩
theorem OwnsE.at {w : World} {base : Nat} {a : Option Addr} {n c : Nat} {l : List Ent} (h : OwnsE w base (.slice a n c) l) {i : Nat} {e : Ent} (hi : l[i]? = some e) :
    ∃ g, a = some ⟨g, 0, none⟩ ∧ g < w.heap.size ∧ w.cell? ⟨g, i * 4, none⟩ = some (.string e.key) ∧ w.cell? ⟨g, i * 4 + 1, none⟩ = some (.string e.val) ∧ w.cell? ⟨g, i * 4 + 2, none⟩ = some (.int .u64 (e.seq : Int)) ∧ w.cell? ⟨g, i * 4 + 3, none⟩ = some (.bool e.gone) := by
  have hlt := (List.getElem?_eq_some_iff.1 hi).1
  obtain ⟨g, cap, e0, h1, h2, h3, h4, h5⟩ := Bo.row_shape h (by omega)
  simp only [Value.slice.injEq] at e0
  obtain ⟨k0, k1, k2, k3⟩ := rowCells_at l i e hi
  exact ⟨g, e0.1, h2, h5 _ _ k0, h5 _ _ k1, h5 _ _ k2, h5 _ _ k3⟩
theorem piece_le {s : TS} {n : Nat} (hf : Fits s n) (e : Ent) : (piece s e).length ≤ 2077 * (n + 1) + 20 := by
  have h1 := hf.d.after (enOf e)
  have h2 := Bo.after_n s.data (enOf e)
  have h3 := h1.rows
  have h4 := h1.foot
  have h5 := Bo.fin_length (Bo.after s.data (enOf e))
  have h6 := hf.dn
  have h7 : (s.put e).data = Bo.after s.data (enOf e) := rfl
  unfold piece
  rw [h7]
  split
  · simp
  · split
    · omega
    · simp
/-- A builder beside the pieces that were told. -/
structure Beside (w0 w : World) (L : TL) (s : TS) (v : Value) : Prop where
  h : BuiltT w w0.heap.size L s
  b : L.b = w0.heap.size
  o : Owns w w0.heap.size v s.told
  ap : ∀ k, v.ownBlock = some k → ¬ OwnT L k
  bel : Below w0.heap.size w0 w
/-- What comes of an Add, and of what it told being appended. -/
theorem Beside.next {w wr wr1 w2 w3 : World} {L : TL} {s : TS} {a : Option Addr} {c n : Nat} {e : Ent} {ao : Option Addr} {cap : Nat} (h : Beside w wr L s (.slice a n c)) (hb : Below wr.heap.size wr wr1) (hg : GoesT w.heap.size L wr1 (addS s e) w2)
    (hown3 : Owns w3 w.heap.size (.slice ao (s.told.length + (bmk (piece s e)).size) cap) (s.told ++ (bmk (piece s e)).data.toList)) (hgrow : w2.grownBy w3 (Value.slice a n c).ownBlock)
    (hlie : ∀ k, (Value.slice ao (s.told.length + (bmk (piece s e)).size) cap).ownBlock = some k → (Value.slice a n c).ownBlock = some k ∨ w2.heap.size ≤ k) : ∃ L', Beside w w3 L' (addS s e) (.slice ao (s.told.length + (bmk (piece s e)).size) cap) := by
  obtain ⟨L', e1, hb2, ht, ho⟩ := hg
  have hub : ∀ k, (Value.slice a n c).ownBlock = some k → k < wr.heap.size := fun k hk => Bo.ownsRow_lt h.o hk
  have hun : ∀ k, (Value.slice a n c).ownBlock = some k → ¬ OwnT L' k := fun k hk hk2 => by
    rcases ho k hk2 with h1 | h1
    · exact h.ap k hk h1
    · have := hub k hk; have := hb.size; omega
  refine ⟨L', ?_, e1.trans h.b, ?_, ?_, ?_⟩
  · exact hb2.frame fun k hk => hgrow.block k (hb2.own_lt hk) (fun e2 => hun k e2.symm hk)
  · rw [told_step]
    exact hown3
  · intro k hk hk2
    rcases hlie k hk with h1 | h1
    · exact hun k h1 hk2
    · have := hb2.own_lt hk2; omega
  · have h1 : Below w.heap.size w wr1 := h.bel.trans (hb.mono h.bel.size)
    have h2 := GoesT.to_below (h.h.below hb) (⟨L', e1, hb2, ht, ho⟩ : GoesT w.heap.size L wr1 (addS s e) w2)
    exact (h1.trans h2).grown hgrow (Nat.le_trans h1.size ht.size) (fun k hk => (World.ownsRow.lt h.o k hk).1)
theorem Beside.kept {w wr wr1 w2 : World} {L : TL} {s s' : TS} {v : Value} (h : Beside w wr L s v) (hb : Below wr.heap.size wr wr1) (hg : GoesT w.heap.size L wr1 s' w2) : Owns w2 w.heap.size v s.told := by
  obtain ⟨L', e1, hb2, ht, ho⟩ := hg
  refine Bo.ownsRow_frame h.o fun k hk => ?_
  have hlt := Bo.ownsRow_lt h.o hk
  exact (ht.block k (Nat.lt_of_lt_of_le hlt hb.size) (h.ap k hk)).trans (hb.block k hlt)
set_option maxHeartbeats 4000000 in
theorem build_any {w : World} {base0 : Nat} {a : Option Addr} {n c : Nat} {l : List Ent} (h : OwnsE w base0 (.slice a n c) l) (hln : l.length = n) (hl : n ≤ 100000) (hq : ∀ e ∈ l, e.seq < 18446744073709551616) (hT : Tab w) :
    Calls Tryd.prog 36 #[.slice a n c] w (Gives (.string (bmk (bldT l))) w) := by
  obtain ⟨X, hX⟩ : ∃ X, X = bmk (bldT l) := ⟨_, rfl⟩
  rw [← hX]
  have HX := Lib.hid hX
  have HH := Lib.hid h; have HLN := Lib.hid hln; have HQ := Lib.hid hq; have HT := Lib.hid hT
  have hn9 : (n : Int) ≤ 100000 := by omega
  have HN := Lib.hid (new_any 0 0 w)
  clear h hln hq hT hX
  go_enter Tryd.func36, Tryd.ntmps36
  go_wp2_with fail
  refine HN.out.mono ?_
  rintro e w1 ⟨L1, hb1, rfl, hbt, hbel⟩
  have HI1 : Hid (Beside w w1 L1 (TS.new 0 0) (.slice none 0 0)) := Lib.hid ⟨hbt, hb1, Owns.nil _ _, fun k hk => by simp [Value.ownBlock] at hk, hbel⟩
  rw [hb1]
  clear hbt hbel hb1
  go_wp2_with fail
  go_loopw [4, 15] (fun u i wr => ∃ k : Nat, k ≤ n ∧ i = .int .i64 (k : Int) ∧ Hid (goodT (TS.new 0 0) (l.take k) = true ∧ ∃ L, Beside w wr L (runT (TS.new 0 0) (l.take k)) u)) (fun _ i _ => n - (intOf i).toNat)
  case atStart => exact ⟨0, by omega, rfl, Lib.hid ⟨rfl, L1, HI1.out⟩⟩
  case round =>
    obtain ⟨k, hk, rfl, HI⟩ := hrel
    clear HI1
    obtain ⟨hgt, L, hbs⟩ := HI.out
    obtain ⟨hinv, hgood⟩ := runT_inv (l.take k) (inv_new 0 0) good_nil hgt
    rw [List.nil_append] at hinv hgood
    have hlk : (l.take k).length = k := by rw [List.length_take, HLN.out]; omega
    have hfit := fits_inv hinv hgood (n := 100000) (by rw [hlk]; omega)
    have HINV := Lib.hid hinv; have HGOOD := Lib.hid hgood; have HGT := Lib.hid hgt; have HFIT := Lib.hid hfit; have HLK := Lib.hid hlk
    have HBS := Lib.hid hbs
    obtain ⟨ua, uc, hu⟩ := Bo.row_any hbs.o
    subst hu
    obtain ⟨S, hS⟩ : ∃ S, S = runT (TS.new 0 0) (l.take k) := ⟨_, rfl⟩
    rw [← hS] at HBS HINV HFIT ⊢
    have HSS := Lib.hid hS
    clear hgt hbs hinv hgood hlk hfit hS HI
    by_cases hkn : k < n
    · have hkn' : (k : Int) < n := by omega
      obtain ⟨e, he⟩ : ∃ e, l[k]? = some e := ⟨_, List.getElem?_eq_getElem (by rw [HLN.out]; exact hkn)⟩
      have hqe := HQ.out e (List.mem_of_getElem? he)
      obtain ⟨g, ha, hg, g0, g1, g2, g3⟩ := HH.out.at he
      subst ha
      have hbel := HBS.out.bel
      have c0 := (hbel.cell (p := ⟨g, k * 4, none⟩) hg).trans g0
      have c1 := (hbel.cell (p := ⟨g, k * 4 + 1, none⟩) hg).trans g1
      have c2 := (hbel.cell (p := ⟨g, k * 4 + 2, none⟩) hg).trans g2
      have c3 := (hbel.cell (p := ⟨g, k * 4 + 3, none⟩) hg).trans g3
      have HTK : Hid (l.take (k + 1) = l.take k ++ [e]) := Lib.hid (by
        obtain ⟨h1, h2⟩ := List.getElem?_eq_some_iff.1 he
        rw [List.take_succ_eq_append_getElem h1, h2])
      have HADD : Hid (∀ W, Below wr.heap.size wr W → Calls Tryd.prog 10 #[.pointer (some ⟨w.heap.size, 0, none⟩), enV e] W (AddV w.heap.size L W S e)) := Lib.hid (fun W hW => by
        have := add_any (HBS.out.h.below hW) e hqe HFIT.out
        rwa [HBS.out.b] at this)
      have HNO : Hid (errE S e ≠ 0 → bldT l = []) := Lib.hid (fun hne => by
        unfold bldT
        rw [if_neg]
        rintro ⟨h1, -⟩
        have h2 : l = l.take (k + 1) ++ l.drop (k + 1) := (List.take_append_drop _ _).symm
        rw [h2, goodT_append, HTK.out, goodT_snoc, ← HSS.out, decide_eq_false hne] at h1
        simp at h1)
      obtain ⟨EK, EV, EQ, EG⟩ := e
      dsimp only [enV] at HADD
      dsimp only at c0 c1 c2 c3
      clear g0 g1 g2 g3 hg he hbel hqe
      by_cases hz : errE S ⟨EK, EV, EQ, EG⟩ = 0
      · have HZ := Lib.hid hz
        clear hz HNO
        go_wp2_with fail
        refine (HADD.out _ (box_below wr _)).mono ?_
        rintro x w2 ⟨rfl, hg2⟩
        have HG2 := Lib.hid hg2
        rw [HZ.out]
        have HKO := Lib.hid (HBS.out.kept (box_below wr (entX ⟨EK, EV, EQ, EG⟩)) hg2)
        have HSZ : Hid (S.told.length + (bmk (piece S ⟨EK, EV, EQ, EG⟩)).size ≤ 100000000000) := Lib.hid (by
          have h1 := HFIT.out.t
          have h2 := piece_le HFIT.out ⟨EK, EV, EQ, EG⟩
          rw [bmk_size]
          omega)
        have HLOW : Hid (w.heap.size ≤ w2.heap.size) := Lib.hid (by
          have h1 := HBS.out.bel.size
          obtain ⟨_, _, _, h2, _⟩ := hg2
          have := h2.size
          rw [World.size_alloc] at this
          omega)
        clear hg2 c0 c1 c2 c3
        generalize htn : S.told.length = tn at *
        have HTN := Lib.hid htn; clear htn
        go_wp2_with (at_builtin; go_must (refine wpList_append_str (by rfl) _ _ (by rfl) w.heap.size (.slice ua tn uc) S.told (by rfl) HKO.out (bmk (piece S ⟨EK, EV, EQ, EG⟩)) (by rfl) (by rw [HTN.out]; exact HSZ.out) HLOW.out ?_))
        intro ao cap w3 hown3 hgrow hlie
        have HNX := Lib.hid (Beside.next HBS.out (box_below wr _) HG2.out hown3 hgrow hlie)
        clear hown3 hgrow hlie
        go_wp2_with fail
        go_roundw
        case rel => exact ⟨k + 1, by omega, by go_num, Lib.hid ⟨by rw [HTK.out, goodT_snoc, HGT.out, ← HSS.out, decide_eq_true HZ.out]; rfl, by rw [HTK.out, runT_snoc, ← HSS.out]; exact HNX.out⟩⟩
        case measure => simp [intOf]; omega
      · have HXE : Hid (X = ⟨#[]⟩) := Lib.hid (by rw [HX.out, HNO.out hz]; rfl)
        have hne : ((errE S ⟨EK, EV, EQ, EG⟩ : Nat) : Int) ≠ 0 := by omega
        clear HNO
        go_wp2_with fail
        refine (HADD.out _ (box_below wr _)).mono ?_
        rintro x w2 ⟨rfl, hg2⟩
        have HBL : Hid (Below w.heap.size w w2) := Lib.hid (by
          have h1 : Below w.heap.size w (wr.alloc (entX ⟨EK, EV, EQ, EG⟩)) := HBS.out.bel.alloc HBS.out.bel.size _
          exact h1.trans (GoesT.to_below (HBS.out.h.below (box_below wr _)) hg2))
        clear hg2 hz c0 c1 c2 c3
        generalize errE S ⟨EK, EV, EQ, EG⟩ = E at *
        go_wp2_with fail
        go_ret
        rw [HXE.out]
        exact ⟨rfl, HBL.out⟩
    · obtain rfl : k = n := by omega
      have hkn' : ¬ ((k : Nat) : Int) < k := by omega
      have htk : l.take k = l := List.take_of_length_le (by rw [HLN.out]; exact Nat.le_refl _)
      rw [htk] at HINV HGOOD HGT HSS
      have HBN := Lib.hid (fun (W : World) (h : Below wr.heap.size wr W) => HBS.out.bel.trans (h.mono HBS.out.bel.size))
      by_cases hl0 : l = []
      · have hcnt : S.cnt = 0 := by rw [HINV.out.cnt, hl0]; rfl
        have htold : S.told = [] := by rw [HINV.out.told, hl0]; rfl
        have HXE : Hid (X = bmk []) := Lib.hid (by rw [HX.out]; unfold bldT; rw [if_neg (fun h => h.2 hl0)])
        have HFN := Lib.hid (finish_no HBS.out.h (Or.inr hcnt))
        rw [HBS.out.b] at HFN
        have hown := HBS.out.o
        rw [htold] at hown
        have HOW := Lib.hid hown
        rw [htold]
        clear hcnt htold hown htk hl0
        go_wp2_with fail
        refine HFN.out.mono ?_
        rintro x w2 ⟨rfl, hb2⟩
        have HB2 := Lib.hid hb2
        clear hb2
        go_wp2_with (at_builtin; go_must (refine wpList_append_str (by rfl) _ _ (by rfl) w.heap.size (.slice ua 0 uc) [] (by rfl) (Bo.ownsRow_below HOW.out (HB2.out.alloc HB2.out.size _)) ⟨#[]⟩ (by rfl) (by show 0 + 0 ≤ _; omega) (Nat.le_trans HBS.out.bel.size (HB2.out.alloc HB2.out.size _).size) ?_))
        intro ao cap w3 hown3 hgrow hlie
        have hcv := Owns.convert hown3
        have HB3 := Lib.hid ((HBN.out _ (HB2.out.alloc HB2.out.size _)).grown hgrow (Nat.le_trans HBS.out.bel.size (HB2.out.alloc HB2.out.size _).size) (fun j hj => (World.ownsRow.lt HOW.out j hj).1))
        clear hown3 hgrow hlie
        go_wp2_with fail
        go_ret
        rw [HXE.out]
        exact ⟨rfl, HB3.out⟩
      · have hpre := told_pre HINV.out HGOOD.out
        have ht5 := (t5_is HINV.out HGOOD.out).2.2.2
        have hle := lens HGOOD.out
        have hwl : (whole l).length ≤ 1000000000 := by
          have h1 := hle.w
          have h2 := hle.f3
          rw [HLN.out] at h2
          omega
        have HXE : Hid (X = bmk (S.told ++ rest S)) := Lib.hid (by rw [HX.out, hpre.1]; unfold bldT; rw [if_pos ⟨HGT.out, hl0⟩])
        have HFN := Lib.hid (finish_ok HBS.out.h (HT.out.below HBS.out.bel) HT.out.lt (by
            obtain ⟨a1, a2, a3, a4, a5, a6, a7⟩ := HFIT.out
            exact ⟨a1, a2, by omega, by omega, by omega, by omega, by omega⟩) (fun q hq => by
            rw [HINV.out.keys, keysOf_mem] at hq
            obtain ⟨e, he, rfl⟩ := hq
            have := (HGOOD.out.ok e he).k2
            omega) HINV.out.done (by rw [HINV.out.cnt]; intro h; exact hl0 (List.length_eq_zero_iff.1 h)) (by rw [HINV.out.keys]; exact keysOf_ne hl0) (by rw [ht5]; exact hpre.2) (by rw [ht5]; omega))
        rw [HBS.out.b] at HFN
        have HRS : Hid ((bmk (rest S)).size ≤ 1000000000) := Lib.hid (by
          rw [bmk_size]
          have := congrArg List.length hpre.1
          rw [List.length_append] at this
          omega)
        have HTS : Hid (S.told.length ≤ 1000000000) := Lib.hid (by have := hpre.2; omega)
        have HEQ : Hid ((bmk (rest S)).data.toList = rest S) := Lib.hid rfl
        obtain ⟨R, hR⟩ : ∃ R, R = bmk (rest S) := ⟨_, rfl⟩
        rw [← hR] at HFN HRS HEQ
        clear hpre ht5 hle hwl htk hl0 hR
        generalize htn : S.told.length = tn at *
        have HTN := Lib.hid htn; clear htn
        go_wp2_with fail
        refine HFN.out.mono ?_
        rintro x w2 ⟨rfl, hg2⟩
        have HKO := Lib.hid (HBS.out.kept (Below.refl _ _) hg2)
        have HB2 := Lib.hid (HBS.out.bel.trans (GoesT.to_below HBS.out.h hg2))
        clear hg2
        go_wp2_with (at_builtin; go_must (refine wpList_append_str (by rfl) _ _ (by rfl) w.heap.size (.slice ua tn uc) S.told (by rfl) (Bo.ownsRow_below HKO.out (box_below _ _)) R (by rfl) (by have h1 := HTS.out; have h2 := HRS.out; rw [HTN.out]; omega) (HB2.out.alloc HB2.out.size _).size ?_))
        intro ao cap w3 hown3 hgrow hlie
        have hcv := Owns.convert hown3
        have HB3 := Lib.hid ((HB2.out.alloc HB2.out.size _).grown hgrow (HB2.out.alloc HB2.out.size _).size (fun j hj => (World.ownsRow.lt HKO.out j hj).1))
        rw [HEQ.out] at hcv
        have HXE2 : Hid (X = ⟨(S.told ++ rest S).toArray⟩) := Lib.hid HXE.out
        clear hown3 hgrow hlie
        go_wp2_with fail
        go_ret
        rw [HXE2.out]
        exact ⟨rfl, HB3.out⟩
end Go.Proofs.YtphoihkbdogkhaaDoor.Bn.Tw

/- The walks of table's May, Get, Range; what they tell of a table of some entries. -/
namespace Go.Proofs.YtphoihkbdogkhaaDoor.Bn.Tw
open Go Go.RowKit Go.Proofs.YtphoihkbdogkhaaDoor.Tb
open Go.Proofs.YtphoihkbdogkhaaDoor.Bn.Bo (Blk heap_lt cell_of)
set_option linter.unusedVariables false
set_option maxRecDepth 100000

theorem row_low2 {w : World} {base b2 : Nat} {v : Value} {l : List Ent} (hb : b2 ≤ base) (h : OwnsE w base v l) : OwnsE w b2 v l := by
  refine ⟨h.1, ?_⟩
  rcases h.2 with h1 | ⟨g, cap, cur, h1, h2, h3⟩
  · exact Or.inl h1
  · exact Or.inr ⟨g, cap, cur, h1, Nat.le_trans hb h2, h3⟩
theorem mayT_nil (k : ByteArray) (w : World) : Calls Tryd.prog 13 #[.pointer none, .string k] w fun x w' => x = .returned (.bool false) ∧ w = w' := by
  go_enter Tryd.func13, Tryd.ntmps13
  go_wp2_with fail
  go_ret
  exact ⟨rfl, rfl⟩
theorem mayT_any {w : World} {base p : Nat} {f : ByteArray} {ix : BL1} {bv : Value} {l : List BL1} (h : Tab1 w base p f ix bv l) (hf : f.size ≤ 1000000000) (k : ByteArray) (hk : k.size ≤ 1000000000) :
    Calls Tryd.prog 13 #[.pointer (some ⟨p, 0, none⟩), .string k] w (Gives (.bool (Bl.may f.data.toList k.data.toList)) w) := by
  have HM := Lib.hid (may_any f k w hf (by omega))
  have c0 : w.cell? ⟨p, 0, none⟩ = some (.string f) := by rw [cell_of h.box]; rfl
  clear h
  go_enter Tryd.func13, Tryd.ntmps13
  go_wp2_with fail
  refine HM.out.mono ?_
  rintro x w1 ⟨rfl, hb⟩
  go_wp2_with fail
  go_ret
  exact ⟨rfl, hb⟩
theorem range_nil (a b : ByteArray) (w : World) : Calls Tryd.prog 15 #[.pointer none, .string a, .string b] w fun x w' => x = .returned (.slice none 0 0) ∧ w = w' := by
  go_enter Tryd.func15, Tryd.ntmps15
  go_wp2_with fail
  go_ret
  exact ⟨rfl, rfl⟩
/-- What Range tells. -/
def rangeT (t : T) (a b : ByteArray) : List Ent := untilT b ((fromT t.blks (seekT t (bmk (Mm.place a.data.toList 18446744073709551615))).1 (seekT t (bmk (Mm.place a.data.toList 18446744073709551615))).2).map entOf)
set_option maxHeartbeats 1000000 in
theorem range_any {w : World} {base p : Nat} {f : ByteArray} {ix : BL1} {bv : Value} {l : List BL1} (h : Tab1 w base p f ix bv l) (hs : Small l) (hix : ix.rs.length ≤ 1000000) (ha : Bo.Asc ix.es) (hb : ∀ x ∈ l, Bo.Asc x.es) (hN : (l.map BL1.es).flatten.length ≤ 1000000000) (a b : ByteArray) (hk : a.size ≤ 1000000) :
    Calls Tryd.prog 15 #[.pointer (some ⟨p, 0, none⟩), .string a, .string b] w (EntsBack (rangeT (tOf f ix l) a b) w) := by
  have HI := Lib.hid (internal_any a 18446744073709551615 w hk (by omega))
  obtain ⟨P, hP⟩ : ∃ P, P = bmk (Mm.place a.data.toList 18446744073709551615) := ⟨_, rfl⟩
  rw [← hP] at HI
  have HR : Hid (rangeT (tOf f ix l) a b = untilT b ((fromT (l.map BL1.es) (seekT (tOf f ix l) P).1 (seekT (tOf f ix l) P).2).map entOf)) := Lib.hid (by unfold rangeT; rw [hP])
  rw [HR.out]
  have HSK := Lib.hid (fun W (hW : Below w.heap.size w W) => seek_any (h.below hW) hs hix ha hb P)
  have h1 : (seekT (tOf f ix l) P).1 ≤ 1000000 := by
    have := Bo.seekN_le ix.es P
    rw [List.length_map] at this
    show Bo.seekN ix.es P ≤ _
    omega
  have h2 : (seekT (tOf f ix l) P).2 ≤ 1000000 := by
    unfold seekT
    dsimp only
    cases hx : (l.map BL1.es)[Bo.seekN ix.es P]? with
    | none => dsimp only; omega
    | some c =>
      dsimp only
      obtain ⟨x, hx1, rfl⟩ := List.mem_map.1 (List.mem_of_getElem? hx)
      have h3 := Bo.seekN_le x.es P
      have h4 := hs.r x hx1
      rw [List.length_map] at h3
      omega
  have HE := Lib.hid (fun W (hW : Below w.heap.size w W) => entries_any (h.below hW) hs hN _ _ h1 h2 b)
  clear h hs hix ha hb hN hP h1 h2 HR
  generalize (seekT (tOf f ix l) P).1 = i at *
  generalize (seekT (tOf f ix l) P).2 = j at *
  go_enter Tryd.func15, Tryd.ntmps15
  go_wp2_with fail
  refine HI.out.mono ?_
  rintro x w1 ⟨rfl, hb1⟩
  have HB1 := Lib.hid hb1
  clear hb1
  go_wp2_with fail
  refine (HSK.out _ HB1.out).mono ?_
  rintro x w2 ⟨rfl, hb2⟩
  have HB2 := Lib.hid (Below.next HB1.out hb2)
  clear hb2
  go_wp2_with fail
  refine (HE.out _ HB2.out).mono ?_
  rintro x w3 ⟨v, rfl, h1, h2⟩
  go_wp2_with fail
  go_ret
  exact ⟨v, rfl, row_low2 HB2.out.size h1, HB2.out.trans (h2.mono HB2.out.size)⟩
end Go.Proofs.YtphoihkbdogkhaaDoor.Bn.Tw

/- The walk of table's Get. -/
namespace Go.Proofs.YtphoihkbdogkhaaDoor.Bn.Tw
open Go Go.RowKit Go.Proofs.YtphoihkbdogkhaaDoor.Tb
open Go.Proofs.YtphoihkbdogkhaaDoor.Bn.Bo (Blk heap_lt cell_of)
set_option linter.unusedVariables false
set_option maxRecDepth 100000

/-- What Get tells. -/
def getT (t : T) (k : ByteArray) (q : Nat) : Option Ent :=
  if Bl.may t.filter k.data.toList = false then none else match t.blks[(seekT t (bmk (Mm.place k.data.toList q))).1]? with
  | none => none
  | some b => if (entAt b (seekT t (bmk (Mm.place k.data.toList q))).2).key = k then some (entAt b (seekT t (bmk (Mm.place k.data.toList q))).2) else none
abbrev getV (o : Option Ent) : Value := match o with
  | none => .tuple #[enV zeroE, .bool false]
  | some e => .tuple #[enV e, .bool true]
theorem get_nil (k : ByteArray) (q : Nat) (w : World) : Calls Tryd.prog 11 #[.pointer none, .string k, .int .u64 (q : Int)] w (Gives (getV none) w) := by
  have HM := Lib.hid (fun W => mayT_nil k W)
  go_enter Tryd.func11, Tryd.ntmps11
  go_wp2_with fail
  refine (HM.out _).mono ?_
  rintro x w1 ⟨rfl, rfl⟩
  go_wp2_with fail
  exact bodyPost_ret (v := getV none) (by simp [results, Tryd.results11, go_sem, zeroE]) rfl ⟨rfl, box_below _ _⟩
set_option maxHeartbeats 2000000 in
theorem get_any {w : World} {base p : Nat} {f : ByteArray} {ix : BL1} {bv : Value} {l : List BL1} (h : Tab1 w base p f ix bv l) (hs : Small l) (hix : ix.rs.length ≤ 1000000) (hl : l.length = ix.rs.length) (ha : Bo.Asc ix.es) (hb : ∀ x ∈ l, Bo.Asc x.es) (hf : f.size ≤ 1000000000) (k : ByteArray) (q : Nat) (hk : k.size ≤ 1000000) (hq : q < 18446744073709551616) :
    Calls Tryd.prog 11 #[.pointer (some ⟨p, 0, none⟩), .string k, .int .u64 (q : Int)] w (Gives (getV (getT (tOf f ix l) k q)) w) := by
  have HM := Lib.hid (mayT_any (h.below (box_below w (entX zeroE))) hf k (by omega))
  have HI := Lib.hid (fun W => internal_any k q W hk hq)
  obtain ⟨P, hP⟩ : ∃ P, P = bmk (Mm.place k.data.toList q) := ⟨_, rfl⟩
  rw [← hP] at HI
  have HG : Hid (getT (tOf f ix l) k q = if Bl.may f.data.toList k.data.toList = false then none else match (l.map BL1.es)[(seekT (tOf f ix l) P).1]? with
      | none => none
      | some b => if (entAt b (seekT (tOf f ix l) P).2).key = k then some (entAt b (seekT (tOf f ix l) P).2) else none) := Lib.hid (by rw [hP]; rfl)
  have HSK := Lib.hid (fun W (hW : Below w.heap.size w W) => seek_any (h.below hW) hs hix ha hb P)
  have hi9 : (seekT (tOf f ix l) P).1 ≤ l.length := by
    have := Bo.seekN_le ix.es P
    rw [List.length_map] at this
    show Bo.seekN ix.es P ≤ _
    omega
  obtain ⟨G, hG⟩ : ∃ G, G = getT (tOf f ix l) k q := ⟨_, rfl⟩
  rw [← hG] at HG ⊢
  obtain ⟨a, c, rfl⟩ := h.blks.shape
  have HH := Lib.hid h; have HS := Lib.hid hs
  have hln : (l.length : Int) ≤ 1000000 := by have := hs.n; omega
  clear h hs hix hl ha hb hf hk hq hP hG
  generalize (seekT (tOf f ix l) P).1 = i at *
  generalize (seekT (tOf f ix l) P).2 = j at *
  cases hm : Bl.may f.data.toList k.data.toList with
  | false =>
    have HGN : Hid (G = none) := Lib.hid (by rw [HG.out, if_pos hm])
    rw [hm] at HM
    rw [HGN.out]
    clear hm HG HGN
    go_enter Tryd.func11, Tryd.ntmps11
    go_wp2_with fail
    refine HM.out.mono ?_
    rintro x w1 ⟨rfl, hb1⟩
    have HB1 := Lib.hid ((box_below _ _).trans (hb1.mono (by simp)) : Below w.heap.size w w1)
    have hx1 : w1.heap[w.heap.size]? = some (entX zeroE) := (hb1.block _ (by simp)).trans (heap_alloc_new w _)
    have f0 := Bo.unfrozen_of hx1 0
    have f1 := Bo.unfrozen_of hx1 1
    have f2 := Bo.unfrozen_of hx1 2
    have f3 := Bo.unfrozen_of hx1 3
    have c0 : w1.cell? ⟨w.heap.size, 0, none⟩ = some (.string ⟨#[]⟩) := by rw [cell_of hx1]; rfl
    have c1 : w1.cell? ⟨w.heap.size, 1, none⟩ = some (.string ⟨#[]⟩) := by rw [cell_of hx1]; rfl
    have c2 : w1.cell? ⟨w.heap.size, 2, none⟩ = some (.int .u64 0) := by rw [cell_of hx1]; rfl
    have c3 : w1.cell? ⟨w.heap.size, 3, none⟩ = some (.bool false) := by rw [cell_of hx1]; rfl
    clear hb1 hx1
    go_wp2_with fail
    exact bodyPost_ret (v := getV none) (by simp [results, Tryd.results11, go_sem, zeroE, c0, c1, c2, c3]) rfl ⟨rfl, set4E_below zeroE HB1.out (Nat.le_refl _)⟩
  | true =>
    rw [hm] at HM
    have HG2 : Hid (G = match (l.map BL1.es)[i]? with
      | none => none
      | some b => if (entAt b j).key = k then some (entAt b j) else none) := Lib.hid (by rw [HG.out, if_neg (by rw [hm]; decide)])
    clear hm HG
    by_cases hil : i = l.length
    · have HGN : Hid (G = none) := Lib.hid (by rw [HG2.out, List.getElem?_eq_none (by rw [List.length_map]; omega)])
      have heq : ((i : Int) == (l.length : Int)) = true := by rw [hil]; simp
      rw [HGN.out]
      have HC2 : Hid (∀ W, Below w.heap.size w W → W.cell? ⟨p, 2, none⟩ = some (.slice a l.length c)) := Lib.hid (fun W hW => by rw [cell_of (HH.out.below hW).box]; rfl)
      clear hil HG2 HGN
      generalize l.length = ln at *
      go_enter Tryd.func11, Tryd.ntmps11
      go_wp2_with fail
      refine HM.out.mono ?_
      rintro x w1 ⟨rfl, hb1⟩
      have HX1 : Hid (w1.heap[w.heap.size]? = some (entX zeroE)) := Lib.hid ((hb1.block _ (by simp)).trans (heap_alloc_new w _))
      have HB1 := Lib.hid ((box_below _ _).trans (hb1.mono (by simp)) : Below w.heap.size w w1)
      clear hb1
      go_wp2_with fail
      refine (HI.out _).mono ?_
      rintro x w2 ⟨rfl, hb2⟩
      have HX2 : Hid (w2.heap[w.heap.size]? = some (entX zeroE)) := Lib.hid ((hb2.block _ (heap_lt HX1.out)).trans HX1.out)
      have HB2 := Lib.hid (Below.next HB1.out hb2)
      clear hb2
      go_wp2_with fail
      refine (HSK.out _ HB2.out).mono ?_
      rintro x w3 ⟨rfl, hb3⟩
      have HB3 := Lib.hid (Below.next HB2.out hb3)
      have cb := HC2.out _ HB3.out
      have hx3 : w3.heap[w.heap.size]? = some (entX zeroE) := (hb3.block _ (heap_lt HX2.out)).trans HX2.out
      have f0 := Bo.unfrozen_of hx3 0
      have f1 := Bo.unfrozen_of hx3 1
      have f2 := Bo.unfrozen_of hx3 2
      have f3 := Bo.unfrozen_of hx3 3
      have c0 : w3.cell? ⟨w.heap.size, 0, none⟩ = some (.string ⟨#[]⟩) := by rw [cell_of hx3]; rfl
      have c1 : w3.cell? ⟨w.heap.size, 1, none⟩ = some (.string ⟨#[]⟩) := by rw [cell_of hx3]; rfl
      have c2 : w3.cell? ⟨w.heap.size, 2, none⟩ = some (.int .u64 0) := by rw [cell_of hx3]; rfl
      have c3 : w3.cell? ⟨w.heap.size, 3, none⟩ = some (.bool false) := by rw [cell_of hx3]; rfl
      clear hb3 hx3
      go_wp2_with fail
      exact bodyPost_ret (v := getV none) (by simp [results, Tryd.results11, go_sem, zeroE, c0, c1, c2, c3]) rfl ⟨rfl, set4E_below zeroE HB3.out (Nat.le_refl _)⟩
    · have heq : ((i : Int) == (l.length : Int)) = false := by simp; omega
      have hilt : i < l.length := by omega
      obtain ⟨x, hx⟩ : ∃ x, l[i]? = some x := ⟨_, List.getElem?_eq_getElem hilt⟩
      have hxm := List.mem_of_getElem? hx
      obtain ⟨g, ha, hg, cg⟩ := HH.out.blks.at hx
      subst ha
      have HC2 : Hid (∀ W, Below w.heap.size w W → W.cell? ⟨p, 2, none⟩ = some (.slice (some ⟨g, 0, none⟩) l.length c) ∧ W.cell? ⟨g, i, none⟩ = some (.pointer (some ⟨x.p, 0, none⟩))) := Lib.hid (fun W hW => ⟨by rw [cell_of (HH.out.below hW).box]; rfl, (hW.cell (p := ⟨g, i, none⟩) hg).trans cg⟩)
      obtain ⟨E, hE⟩ : ∃ E, E = entAt x.es j := ⟨_, rfl⟩
      have HEA : Hid (∀ W, Below w.heap.size w W → Calls Tryd.prog 34 #[.pointer (some ⟨x.p, 0, none⟩), .int .i64 (j : Int)] W (Gives (enV E) W)) := Lib.hid (fun W hW => by
        rw [hE]
        exact entryAt_any ((HH.out.below hW).blks.blk x hxm) j (HS.out.z x hxm))
      have HG3 : Hid (G = if E.key = k then some E else none) := Lib.hid (by rw [HG2.out, List.getElem?_map, hx, hE]; rfl)
      have hi1 : (i : Int) < l.length := by omega
      clear hx hxm cg hg hE HG2 hil
      obtain ⟨EK, EV, EQ, EG⟩ := E
      dsimp only [enV] at HEA
      dsimp only at HG3
      generalize l.length = ln at *
      go_enter Tryd.func11, Tryd.ntmps11
      go_wp2_with fail
      refine HM.out.mono ?_
      rintro x w1 ⟨rfl, hb1⟩
      have HX1 : Hid (w1.heap[w.heap.size]? = some (entX zeroE)) := Lib.hid ((hb1.block _ (by simp)).trans (heap_alloc_new w _))
      have HB1 := Lib.hid ((box_below _ _).trans (hb1.mono (by simp)) : Below w.heap.size w w1)
      clear hb1
      go_wp2_with fail
      refine (HI.out _).mono ?_
      rintro x w2 ⟨rfl, hb2⟩
      have HX2 : Hid (w2.heap[w.heap.size]? = some (entX zeroE)) := Lib.hid ((hb2.block _ (heap_lt HX1.out)).trans HX1.out)
      have HB2 := Lib.hid (Below.next HB1.out hb2)
      clear hb2
      go_wp2_with fail
      refine (HSK.out _ HB2.out).mono ?_
      rintro x w3 ⟨rfl, hb3⟩
      have HX3 : Hid (w3.heap[w.heap.size]? = some (entX zeroE)) := Lib.hid ((hb3.block _ (heap_lt HX2.out)).trans HX2.out)
      have HB3 := Lib.hid (Below.next HB2.out hb3)
      obtain ⟨cb, cg⟩ := HC2.out _ HB3.out
      clear hb3
      go_wp2_with fail
      refine (HEA.out _ HB3.out).mono ?_
      rintro x w4 ⟨rfl, hb4⟩
      have HX4 : Hid (w4.heap[w.heap.size]? = some (entX zeroE)) := Lib.hid ((hb4.block _ (heap_lt HX3.out)).trans HX3.out)
      have HB4 := Lib.hid (Below.next HB3.out hb4)
      clear hb4 cb cg
      by_cases hek : EK = k
      · have he2 : (EK.toList == k.toList) = true := by rw [hek]; simp
        have HGE : Hid (G = some ⟨EK, EV, EQ, EG⟩) := Lib.hid (by rw [HG3.out, if_pos hek])
        clear hek
        have HB5 := Lib.hid (HB4.out.alloc HB4.out.size (entX ⟨EK, EV, EQ, EG⟩))
        have hx5 : (w4.alloc (entX ⟨EK, EV, EQ, EG⟩)).heap[w.heap.size]? = some (entX zeroE) := ((box_below w4 _).block _ (heap_lt HX4.out)).trans HX4.out
        have f0 := Bo.unfrozen_of hx5 0
        have f1 := Bo.unfrozen_of hx5 1
        have f2 := Bo.unfrozen_of hx5 2
        have f3 := Bo.unfrozen_of hx5 3
        have c0 : (w4.alloc (entX ⟨EK, EV, EQ, EG⟩)).cell? ⟨w.heap.size, 0, none⟩ = some (.string ⟨#[]⟩) := by rw [cell_of hx5]; rfl
        have c1 : (w4.alloc (entX ⟨EK, EV, EQ, EG⟩)).cell? ⟨w.heap.size, 1, none⟩ = some (.string ⟨#[]⟩) := by rw [cell_of hx5]; rfl
        have c2 : (w4.alloc (entX ⟨EK, EV, EQ, EG⟩)).cell? ⟨w.heap.size, 2, none⟩ = some (.int .u64 0) := by rw [cell_of hx5]; rfl
        have c3 : (w4.alloc (entX ⟨EK, EV, EQ, EG⟩)).cell? ⟨w.heap.size, 3, none⟩ = some (.bool false) := by rw [cell_of hx5]; rfl
        clear hx5
        go_wp2_with fail
        exact bodyPost_ret (v := getV (some ⟨EK, EV, EQ, EG⟩)) (by simp [results, Tryd.results11, go_sem, c0, c1, c2, c3]) rfl ⟨by rw [HGE.out], set4E_below (⟨EK, EV, EQ, EG⟩ : Ent) HB5.out (Nat.le_refl _)⟩
      · have he2 : (EK.toList == k.toList) = false := by
          rw [beq_eq_false_iff_ne, ByteArray.toList_eq, ByteArray.toList_eq]
          exact fun e => hek (ByteArray.ext (Array.toList_inj.1 e))
        have HGE : Hid (G = none) := Lib.hid (by rw [HG3.out, if_neg hek])
        clear hek
        have HB5 := Lib.hid (HB4.out.alloc HB4.out.size (entX ⟨EK, EV, EQ, EG⟩))
        have hx5 : (w4.alloc (entX ⟨EK, EV, EQ, EG⟩)).heap[w.heap.size]? = some (entX zeroE) := ((box_below w4 _).block _ (heap_lt HX4.out)).trans HX4.out
        have f0 := Bo.unfrozen_of hx5 0
        have f1 := Bo.unfrozen_of hx5 1
        have f2 := Bo.unfrozen_of hx5 2
        have f3 := Bo.unfrozen_of hx5 3
        have c0 : (w4.alloc (entX ⟨EK, EV, EQ, EG⟩)).cell? ⟨w.heap.size, 0, none⟩ = some (.string ⟨#[]⟩) := by rw [cell_of hx5]; rfl
        have c1 : (w4.alloc (entX ⟨EK, EV, EQ, EG⟩)).cell? ⟨w.heap.size, 1, none⟩ = some (.string ⟨#[]⟩) := by rw [cell_of hx5]; rfl
        have c2 : (w4.alloc (entX ⟨EK, EV, EQ, EG⟩)).cell? ⟨w.heap.size, 2, none⟩ = some (.int .u64 0) := by rw [cell_of hx5]; rfl
        have c3 : (w4.alloc (entX ⟨EK, EV, EQ, EG⟩)).cell? ⟨w.heap.size, 3, none⟩ = some (.bool false) := by rw [cell_of hx5]; rfl
        clear hx5
        go_wp2_with fail
        exact bodyPost_ret (v := getV none) (by simp [results, Tryd.results11, go_sem, zeroE, c0, c1, c2, c3]) rfl ⟨by rw [HGE.out], set4E_below zeroE HB5.out (Nat.le_refl _)⟩
end Go.Proofs.YtphoihkbdogkhaaDoor.Bn.Tw

/- What Get and Range tell of a table of some entries, plainly. -/
namespace Go.Proofs.YtphoihkbdogkhaaDoor.Bn.Tw
open Go Go.RowKit Go.Proofs.YtphoihkbdogkhaaDoor.Tb
set_option linter.unusedVariables false
set_option maxRecDepth 100000

theorem seekN_append : ∀ (a b : List En) (p : ByteArray), Bo.seekN (a ++ b) p = if Bo.seekN a p = a.length then a.length + Bo.seekN b p else Bo.seekN a p
  | [], b, p => by simp [Bo.seekN]
  | e :: a, b, p => by
    rw [List.cons_append, Bo.seekN, Bo.seekN, seekN_append a]
    by_cases h : Op.bytesLess e.key.data.toList p.data.toList = true
    · rw [if_pos h, if_pos h, List.length_cons]
      by_cases h2 : Bo.seekN a p = a.length
      · rw [if_pos h2, if_pos (by omega)]; omega
      · rw [if_neg h2, if_neg (by omega)]
    · rw [if_neg h, if_neg h, List.length_cons, if_neg (by omega)]
theorem seekN_all : ∀ {a : List En} {p : ByteArray}, (∀ e ∈ a, less e.key p = true) → Bo.seekN a p = a.length
  | [], _, _ => rfl
  | e :: a, p, h => by
    have h1 := h e (by simp)
    unfold less at h1
    rw [Bo.seekN, if_pos h1, seekN_all (fun x hx => h x (by simp [hx])), List.length_cons]
theorem lastP_max {c : List Ent} (hp : c.Pairwise fun a b => less (pl a) (pl b) = true) {p : ByteArray} (h : less (lastP c) p = true) : ∀ x ∈ c, less (pl x) p = true := by
  intro x hx
  have hne : c ≠ [] := by rintro rfl; cases hx
  have e : lastP c = pl (c.getLast hne) := by
    unfold lastP
    rw [List.getLast?_eq_some_getLast hne]
  rw [e] at h
  have hl := List.dropLast_concat_getLast hne
  rw [← hl] at hx hp
  rcases List.mem_append.1 hx with hx | hx
  · exact less_trans ((List.pairwise_append.1 hp).2.2 x hx _ (by simp)) h
  · rw [List.mem_singleton.1 hx]; exact h
theorem seekN_lt {c : List Ent} (hn : c ≠ []) {p : ByteArray} (h : less (lastP c) p = false) : Bo.seekN (c.map enOf) p < (c.map enOf).length := by
  have h1 := Bo.seekN_le (c.map enOf) p
  rcases Nat.lt_or_ge (Bo.seekN (c.map enOf) p) (c.map enOf).length with h2 | h2
  · exact h2
  · exfalso
    have hlen : 0 < c.length := List.length_pos_iff.2 hn
    have hb := Bo.seekN_below (c.map enOf) p (c.length - 1) (enOf (c.getLast hn)) (by
      rw [List.getElem?_map, ← List.getLast?_eq_getElem?, List.getLast?_eq_some_getLast hn]
      rfl) (by rw [List.length_map] at h2; omega)
    unfold lastP at h
    rw [List.getLast?_eq_some_getLast hn] at h
    have h3 : less (pl (c.getLast hn)) p = true := hb
    dsimp only at h
    rw [h3] at h
    cases h
/-- Where seek leads. -/
theorem seek_lead : ∀ (d : List (List Ent)) (a : Nat) (p : ByteArray) (f : List UInt8), (∀ c ∈ d, c ≠ []) → (d.flatten.Pairwise fun x y => less (pl x) (pl y) = true) →
    fromT (d.map fun c => c.map enOf) (seekT ⟨f, idxF a d, d.map fun c => c.map enOf⟩ p).1 (seekT ⟨f, idxF a d, d.map fun c => c.map enOf⟩ p).2 = (d.flatten.map enOf).drop (Bo.seekN (d.flatten.map enOf) p) ∧
    ∀ b, (d.map fun c => c.map enOf)[(seekT ⟨f, idxF a d, d.map fun c => c.map enOf⟩ p).1]? = some b → (seekT ⟨f, idxF a d, d.map fun c => c.map enOf⟩ p).2 < b.length
  | [], a, p, f, _, _ => ⟨rfl, fun b hb => by simp at hb⟩
  | c :: d, a, p, f, hn, hp => by
    rw [List.flatten_cons] at hp
    obtain ⟨p1, p2, p3⟩ := List.pairwise_append.1 hp
    have hcn := hn c (by simp)
    have ih := seek_lead d (a + (cb c).length) p f (fun x hx => hn x (by simp [hx])) p2
    rw [List.flatten_cons, List.map_append, seekN_append]
    cases hl : less (lastP c) p with
    | true =>
      have hall : Bo.seekN (c.map enOf) p = (c.map enOf).length := seekN_all (fun x hx => by
        obtain ⟨e, he, rfl⟩ := List.mem_map.1 hx
        exact lastP_max p1 hl e he)
      have hi : Bo.seekN (idxF a (c :: d)) p = Bo.seekN (idxF (a + (cb c).length) d) p + 1 := by
        rw [idxF, Bo.seekN, if_pos (by exact hl)]
      have hs : seekT ⟨f, idxF a (c :: d), (c :: d).map fun c => c.map enOf⟩ p = ((seekT ⟨f, idxF (a + (cb c).length) d, d.map fun c => c.map enOf⟩ p).1 + 1, (seekT ⟨f, idxF (a + (cb c).length) d, d.map fun c => c.map enOf⟩ p).2) := by
        unfold seekT
        dsimp only
        rw [hi]
        rfl
      rw [if_pos hall, hs]
      dsimp only
      refine ⟨?_, fun b hb => ih.2 b (by simpa using hb)⟩
      have hf : fromT ((c :: d).map fun c => c.map enOf) ((seekT ⟨f, idxF (a + (cb c).length) d, d.map fun c => c.map enOf⟩ p).1 + 1) (seekT ⟨f, idxF (a + (cb c).length) d, d.map fun c => c.map enOf⟩ p).2 = fromT (d.map fun c => c.map enOf) (seekT ⟨f, idxF (a + (cb c).length) d, d.map fun c => c.map enOf⟩ p).1 (seekT ⟨f, idxF (a + (cb c).length) d, d.map fun c => c.map enOf⟩ p).2 := by
        unfold fromT
        rw [List.map_cons, List.drop_succ_cons]
      have hz : (c.map enOf).drop ((c.map enOf).length + Bo.seekN (d.flatten.map enOf) p) = [] := List.drop_of_length_le (by omega)
      rw [hf, ih.1, List.drop_append, hz, List.nil_append, Nat.add_sub_cancel_left]
    | false =>
      have hlt := seekN_lt hcn hl
      have hi : Bo.seekN (idxF a (c :: d)) p = 0 := by
        rw [idxF, Bo.seekN, if_neg (by rw [show Op.bytesLess (idxE a c).key.data.toList p.data.toList = less (lastP c) p from rfl, hl]; decide)]
      have hs : seekT ⟨f, idxF a (c :: d), (c :: d).map fun c => c.map enOf⟩ p = (0, Bo.seekN (c.map enOf) p) := by
        unfold seekT
        dsimp only
        rw [hi]
        rfl
      rw [if_neg (by omega), hs]
      dsimp only
      refine ⟨?_, fun b hb => ?_⟩
      · unfold fromT
        rw [List.drop_zero, List.map_cons, List.drop_append_of_le_length (by omega), List.map_flatten]
      · have : b = c.map enOf := by simpa using hb.symm
        rw [this]
        exact hlt
/-- What is ahead of a place. -/
theorem less_place (e : Ent) (k : ByteArray) {q : Nat} (h1 : e.seq < 18446744073709551616) (h2 : q < 18446744073709551616) : less (pl e) (bmk (Mm.place k.data.toList q)) = (less e.key k || (decide (e.key = k) && decide (q < e.seq))) := by
  have h := Mm.place_lt (Tb.kl e) k.data.toList h1 h2
  unfold less pl
  rw [bmk_list, bmk_list, Mm.bytesLess_bb, h]
  unfold Mm.ahead
  rw [Mm.bytesLess_bb]
  congr 1
  congr 1
  by_cases hk : e.key = k
  · subst hk
    simp [Tb.kl]
  · rw [decide_eq_false hk, beq_eq_false_iff_ne]
    exact fun e2 => hk (ByteArray.ext (Array.toList_inj.1 e2))
theorem ok_seq {e : Ent} (h : OkE e) : e.seq < 18446744073709551616 := by have := h.q2; omega
/-- What is told by a key and a number. -/
theorem getT_is {l : List Ent} (g : Tb.Good l) (k : ByteArray) (q : Nat) : getT (tabOf l) k q = if Bl.may (tabOf l).filter k.data.toList = false then none else match l[Bo.seekN (l.map enOf) (bmk (Mm.place k.data.toList q))]? with
    | none => none
    | some e => if e.key = k then some e else none := by
  obtain ⟨h1, h2⟩ := seek_lead (chunks l) 0 (bmk (Mm.place k.data.toList q)) (Bl.mk (kls (keysOf l))) (chunks_ne l) (by rw [chunks_flat]; exact g.asc)
  rw [chunks_flat] at h1
  unfold getT
  generalize hN : Bo.seekN (l.map enOf) (bmk (Mm.place k.data.toList q)) = N at *
  have hT : (⟨Bl.mk (kls (keysOf l)), idxF 0 (chunks l), (chunks l).map fun c => c.map enOf⟩ : T) = tabOf l := rfl
  rw [hT] at h1 h2
  have hb : (tabOf l).blks = (chunks l).map fun c => c.map enOf := rfl
  rw [← hb] at h1 h2
  generalize (seekT (tabOf l) (bmk (Mm.place k.data.toList q))).1 = i at *
  generalize (seekT (tabOf l) (bmk (Mm.place k.data.toList q))).2 = j at *
  split
  · rfl
  · cases hx : (tabOf l).blks[i]? with
    | none =>
      rw [fromT_end j (List.getElem?_eq_none_iff.1 hx)] at h1
      have h3 := congrArg List.length h1
      rw [List.length_drop, List.length_map] at h3
      rw [List.getElem?_eq_none (by simp at h3; omega)]
    | some b =>
      have hj := h2 b hx
      have h3 := fromT_step hx (List.getElem?_eq_getElem hj)
      rw [h3] at h1
      have hNl : N < l.length := by
        have h4 := congrArg List.length h1
        rw [List.length_drop, List.length_map, List.length_cons] at h4
        omega
      rw [List.drop_eq_getElem_cons (by rw [List.length_map]; exact hNl)] at h1
      have h5 := (List.cons.inj h1).1
      rw [List.getElem_map] at h5
      have h6 : entAt b j = l[N] := by
        unfold entAt
        rw [List.getElem?_eq_getElem hj]
        dsimp only
        rw [h5, entOf_enOf (g.ok _ (List.getElem_mem hNl))]
      rw [List.getElem?_eq_getElem hNl]
      dsimp only
      rw [h6]
theorem getT_some {l : List Ent} (g : Tb.Good l) {k : ByteArray} {q : Nat} (hq : q < 18446744073709551616) {e : Ent} (h : getT (tabOf l) k q = some e) : e ∈ l ∧ e.key = k ∧ e.seq ≤ q := by
  rw [getT_is g] at h
  split at h
  · cases h
  · cases hx : l[Bo.seekN (l.map enOf) (bmk (Mm.place k.data.toList q))]? with
    | none => rw [hx] at h; cases h
    | some e' =>
      rw [hx] at h
      dsimp only at h
      split at h
      · rename_i hk
        simp only [Option.some.injEq] at h
        subst h
        have hm := List.mem_of_getElem? hx
        refine ⟨hm, hk, ?_⟩
        have h1 := Bo.seekN_above (l.map enOf) (bmk (Mm.place k.data.toList q)) _ (enOf e') (asc_map g.asc) (by rw [List.getElem?_map, hx]; rfl) (Nat.le_refl _)
        have h2 : less (pl e') (bmk (Mm.place k.data.toList q)) = false := h1
        rw [less_place e' k (ok_seq (g.ok e' hm)) hq, Bool.or_eq_false_iff, decide_eq_true hk, Bool.true_and, decide_eq_false_iff_not] at h2
        omega
      · cases h
theorem getT_find {l : List Ent} (g : Tb.Good l) {i q : Nat} (hq : q < 18446744073709551616) {e : Ent} (hi : l[i]? = some e) (hs : e.seq ≤ q) (hn : ∀ j, j + 1 = i → ∀ x, l[j]? = some x → x.key ≠ e.key ∨ q < x.seq) : getT (tabOf l) e.key q = some e := by
  have hm := List.mem_of_getElem? hi
  have hmay : Bl.may (tabOf l).filter e.key.data.toList = true := Bl.may_mk (List.mem_map.2 ⟨e.key, (keysOf_mem l e.key).2 ⟨e, hm, rfl⟩, rfl⟩)
  have hlt := (List.getElem?_eq_some_iff.1 hi).1
  have hN : Bo.seekN (l.map enOf) (bmk (Mm.place e.key.data.toList q)) = i := by
    refine Bo.seekN_eq (by rw [List.length_map]; omega) (fun j x hj hji => ?_) (fun x hx => ?_)
    · rw [List.getElem?_map, Option.map_eq_some_iff] at hj
      obtain ⟨y, hy, rfl⟩ := hj
      obtain ⟨r, rfl⟩ : ∃ r, i = r + 1 := ⟨i - 1, by omega⟩
      obtain ⟨z, hz⟩ : ∃ z, l[r]? = some z := ⟨_, List.getElem?_eq_getElem (by omega)⟩
      have hzm := List.mem_of_getElem? hz
      have hze : less (pl z) (pl e) = true := by
        obtain ⟨hr1, hr2⟩ := List.getElem?_eq_some_iff.1 hz
        obtain ⟨hi1, hi2⟩ := List.getElem?_eq_some_iff.1 hi
        have := List.pairwise_iff_getElem.1 g.asc r (r + 1) hr1 hi1 (by omega)
        rwa [hr2, hi2] at this
      have hzp : less (pl z) (bmk (Mm.place e.key.data.toList q)) = true := by
        rw [less_place z e.key (ok_seq (g.ok z hzm)) hq]
        have h1 : less (pl z) (bmk (Mm.place e.key.data.toList e.seq)) = true := hze
        rw [less_place z e.key (ok_seq (g.ok z hzm)) (ok_seq (g.ok e hm)), Bool.or_eq_true, Bool.and_eq_true, decide_eq_true_eq] at h1
        rcases h1 with h1 | ⟨h1, _⟩
        · rw [h1]; rfl
        · rcases hn r rfl z hz with h2 | h2
          · exact absurd h1 h2
          · rw [decide_eq_true h1, decide_eq_true h2]; simp
      show less (pl y) _ = true
      by_cases hjr : j = r
      · subst hjr
        rw [hz] at hy
        obtain rfl := Option.some.inj hy
        exact hzp
      · obtain ⟨hj1, hj2⟩ := List.getElem?_eq_some_iff.1 hy
        obtain ⟨hr1, hr2⟩ := List.getElem?_eq_some_iff.1 hz
        have := List.pairwise_iff_getElem.1 g.asc j r hj1 hr1 (by omega)
        rw [hj2, hr2] at this
        exact less_trans this hzp
    · rw [List.getElem?_map, hi] at hx
      obtain rfl : enOf e = x := by simpa using hx
      show less (pl e) _ = false
      rw [less_place e e.key (ok_seq (g.ok e hm)) hq, less_irr, Bool.false_or, decide_eq_false (by omega : ¬ q < e.seq), Bool.and_false]
  rw [getT_is g, if_neg (by rw [hmay]; decide), hN, hi]
  dsimp only
  rw [if_pos rfl]
end Go.Proofs.YtphoihkbdogkhaaDoor.Bn.Tw

/- What Range tells of a table of some entries, plainly. -/
namespace Go.Proofs.YtphoihkbdogkhaaDoor.Bn.Tw
open Go Go.RowKit Go.Proofs.YtphoihkbdogkhaaDoor.Tb
set_option linter.unusedVariables false
set_option maxRecDepth 100000

theorem drop_seek : ∀ {l : List Ent} {p : ByteArray}, (l.Pairwise fun x y => less (pl x) (pl y) = true) → (l.map enOf).drop (Bo.seekN (l.map enOf) p) = (l.filter fun e => !less (pl e) p).map enOf
  | [], p, _ => rfl
  | e :: l, p, hp => by
    obtain ⟨h1, h2⟩ := List.pairwise_cons.1 hp
    rw [List.map_cons, Bo.seekN]
    cases h : less (pl e) p with
    | true =>
      rw [if_pos (by exact h), List.drop_succ_cons, drop_seek h2, List.filter_cons, h]
      rfl
    | false =>
      rw [if_neg (by rw [show Op.bytesLess (enOf e).key.data.toList p.data.toList = less (pl e) p from rfl, h]; decide), List.drop_zero, List.filter_cons, h]
      have : l.filter (fun e => !less (pl e) p) = l := List.filter_eq_self.2 (fun x hx => by
        cases h3 : less (pl x) p with
        | true => rw [less_trans (h1 x hx) h3] at h; cases h
        | false => rfl)
      rw [this]
      rfl
theorem key_le {e x : Ent} (he : OkE e) (hx : OkE x) (h : less (pl e) (pl x) = true) : less e.key x.key = true ∨ e.key = x.key := by
  have h1 : less (pl e) (bmk (Mm.place x.key.data.toList x.seq)) = true := h
  rw [less_place e x.key (ok_seq he) (ok_seq hx), Bool.or_eq_true, Bool.and_eq_true, decide_eq_true_eq] at h1
  exact h1.imp_right fun h => h.1
theorem okTo_le {b : ByteArray} {e x : Ent} (he : OkE e) (hx : OkE x) (h : less (pl e) (pl x) = true) (ho : okTo b e = false) : okTo b x = false := by
  unfold okTo at *
  rw [Bool.or_eq_false_iff] at *
  refine ⟨ho.1, ?_⟩
  cases h2 : less x.key b with
  | false => rfl
  | true =>
    rcases key_le he hx h with h3 | h3
    · rw [less_trans h3 h2] at ho; exact absurd ho.2 (by decide)
    · rw [h3, h2] at ho; exact absurd ho.2 (by decide)
theorem until_filter {b : ByteArray} : ∀ {l : List Ent}, (∀ e ∈ l, OkE e) → (l.Pairwise fun x y => less (pl x) (pl y) = true) → untilT b l = l.filter (okTo b)
  | [], _, _ => rfl
  | e :: l, ho, hp => by
    obtain ⟨h1, h2⟩ := List.pairwise_cons.1 hp
    have ih := until_filter (b := b) (fun x hx => ho x (by simp [hx])) h2
    unfold untilT at *
    rw [List.takeWhile_cons, List.filter_cons]
    cases h : okTo b e with
    | true => rw [if_pos rfl, if_pos rfl, ih]
    | false =>
      rw [if_neg (by decide), if_neg (by decide)]
      exact (List.filter_eq_nil_iff.2 (fun x hx => by rw [okTo_le (ho e (by simp)) (ho x (by simp [hx])) (h1 x hx) h]; decide)).symm
theorem map_entOf {l : List Ent} (h : ∀ e ∈ l, OkE e) : (l.map enOf).map entOf = l := by
  rw [List.map_map]
  exact (List.map_congr_left (fun e he => entOf_enOf (h e he))).trans (List.map_id l)
/-- What is told between two keys. -/
theorem rangeT_is {l : List Ent} (g : Tb.Good l) (a b : ByteArray) : rangeT (tabOf l) a b = l.filter fun e => !less e.key a && okTo b e := by
  obtain ⟨h1, h2⟩ := seek_lead (chunks l) 0 (bmk (Mm.place a.data.toList 18446744073709551615)) (Bl.mk (kls (keysOf l))) (chunks_ne l) (by rw [chunks_flat]; exact g.asc)
  rw [chunks_flat] at h1
  have hT : (⟨Bl.mk (kls (keysOf l)), idxF 0 (chunks l), (chunks l).map fun c => c.map enOf⟩ : T) = tabOf l := rfl
  rw [hT] at h1
  have hb : (tabOf l).blks = (chunks l).map fun c => c.map enOf := rfl
  unfold rangeT
  rw [hb, h1, drop_seek g.asc, map_entOf (fun e he => g.ok e ((List.mem_filter.1 he).1)), until_filter (fun e he => g.ok e ((List.mem_filter.1 he).1)) (g.asc.sublist (List.filter_sublist ..)), List.filter_filter]
  refine List.filter_congr fun e he => ?_
  rw [less_place e a (ok_seq (g.ok e he)) (by omega), Bool.and_comm]
  have : ¬ 18446744073709551615 < e.seq := by have := ok_seq (g.ok e he); omega
  rw [decide_eq_false this, Bool.and_false, Bool.or_false]
theorem all_is {l : List Ent} (g : Tb.Good l) : Tb.all (tabOf l) = l := by
  unfold Tb.all
  rw [show (tabOf l).blks = (chunks l).map fun c => c.map enOf from rfl, ← List.map_flatten, chunks_flat]
  exact map_entOf g.ok
end Go.Proofs.YtphoihkbdogkhaaDoor.Bn.Tw

/- The walk of table's readBlocks. -/
namespace Go.Proofs.YtphoihkbdogkhaaDoor.Bn.Tw
open Go Go.RowKit Go.Proofs.YtphoihkbdogkhaaDoor.Tb
open Go.Proofs.YtphoihkbdogkhaaDoor.Bn.Bo (Blk heap_lt cell_of)
set_option linter.unusedVariables false
set_option maxRecDepth 100000

theorem info_pblk : (Tryd.prog.info? 76).map (fun i => (i.zero, i.size, i.bytes)) = some (some (.pointer none), 1, 8) := by kernel_rfl
/-- Blocks were read, or none. -/
def BlksBack (o : Option (List (List En))) (w : World) (x : Ending) (w' : World) : Prop :=
  Below w.heap.size w w' ∧ match o with
  | none => x = .returned (.tuple #[.slice none 0 0, .bool false])
  | some bs => ∃ v l, x = .returned (.tuple #[v, .bool true]) ∧ Blks w' w.heap.size v l ∧ l.map BL1.es = bs
def contB (bs : List (List En)) : Option (List (List En)) → Option (List (List En))
  | none => none
  | some l => some (bs ++ l)
/-- How wide the first number of a row is. -/
def wd (r : List UInt8) : Nat := match Nm.rv r with | none => 0 | some x => x.2
theorem wd_le (r : List UInt8) : wd r ≤ r.length := by
  unfold wd
  cases h : Nm.rv r with
  | none => simp
  | some x => exact (Nm.row_rv (n := x.1) (k := x.2) (by rw [h])).2.1
theorem rvV_wd (r : List UInt8) : ∃ n b, rvV r = .tuple #[.int .u64 n, .int .i64 (wd r : Int), .bool b] := by
  unfold rvV wd
  cases Nm.rv r with
  | none => exact ⟨_, _, rfl⟩
  | some x => exact ⟨_, _, rfl⟩
theorem szOf_wd (r : List UInt8) : szOf r = (Nm.rv (r.drop (wd r))).map (·.1) := rfl
theorem row_low {w : World} {base b2 : Nat} {e : TypeId} {z n : Nat} {v : Value} {xs : List Value} (hb : b2 ≤ base) (h : w.ownsRow base e z v n xs) : w.ownsRow b2 e z v n xs := by
  refine ⟨h.1, ?_⟩
  rcases h.2 with h1 | ⟨g, cap, cur, h1, h2, h3⟩
  · exact Or.inl h1
  · exact Or.inr ⟨g, cap, cur, h1, Nat.le_trans hb h2, h3⟩
theorem blk_low {w : World} {base b2 p : Nat} {v : Value} {rs : List Bo.Row} (hb : b2 ≤ base) (h : Blk w base p v rs) : Blk w b2 p v rs := ⟨h.box, ⟨row_low hb h.own.own, h.own.sees⟩⟩
set_option maxHeartbeats 4000000 in
theorem readBlocks_any (s : ByteArray) {w : World} {base p : Nat} {v : Value} {rs : List Bo.Row} (h : Blk w base p v rs) (hs : s.size ≤ 1000000) (hn : rs.length ≤ 1000000) (hz : ∀ x ∈ rs, x.2.val.size ≤ 1000000) :
    Calls Tryd.prog 65 #[.string s, .pointer (some ⟨p, 0, none⟩)] w (BlksBack (rdB s.data.toList (rs.map Prod.snd)) w) := by
  obtain ⟨i1, hi, hz0, hz1, hz2⟩ := info_parts info_pblk
  obtain ⟨O, hO⟩ : ∃ O, O = rdB s.data.toList (rs.map Prod.snd) := ⟨_, rfl⟩
  rw [← hO]
  have HO := Lib.hid hO
  have HLEN := Lib.hid (Bo.len_any h)
  have HAT := Lib.hid (fun W (i : Nat) (hW : Below w.heap.size w W) => Bo.at_any (h.below hW) (i : Int) (fun x hx => by have := hz x hx; omega))
  have HZ := Lib.hid hz; have HS := Lib.hid hs
  have hn9 : (rs.length : Int) ≤ 1000000 := by omega
  clear h hs hz hO
  go_enter Tryd.func65, Tryd.ntmps65
  go_wp2_with fail
  refine HLEN.out.mono ?_
  rintro e w1 ⟨rfl, rfl⟩
  go_wp2_with fail
  go_loopw [0, 6, 21] (fun sv u i wr => ∃ (k : Nat) (S1 : ByteArray) (l : List BL1), k ≤ rs.length ∧ i = .int .i64 (k : Int) ∧ sv = .string S1 ∧ (S1.size : Int) ≤ 1000000 ∧ Hid (Blks wr w.heap.size u l ∧ O = contB (l.map BL1.es) (rdB S1.data.toList ((rs.map Prod.snd).drop k)) ∧ Below w.heap.size w wr ∧ l.length = k)) (fun _ _ i _ => rs.length - (intOf i).toNat)
  case atStart => exact ⟨0, s, [], by omega, rfl, rfl, by have := HS.out; omega, Lib.hid ⟨Blks.nil _ _, by rw [HO.out, List.drop_zero]; cases rdB s.data.toList (rs.map Prod.snd) <;> rfl, Below.refl _ _, rfl⟩⟩
  case round =>
    obtain ⟨k, S1, l, hk, rfl, rfl, hs9, HI⟩ := hrel
    by_cases hkn : k < rs.length
    · have hkn' : (k : Int) < rs.length := by omega
      obtain ⟨x, hx⟩ : ∃ x, rs[k]? = some x := ⟨_, List.getElem?_eq_getElem hkn⟩
      have hat : Bo.atV (rs.map Prod.snd) (k : Int) = .tuple #[.string x.2.key, .string x.2.val, .bool true] := by
        unfold Bo.atV
        rw [if_neg (by omega), Int.toNat_natCast, List.getElem?_map, hx]
        rfl
      have hA := HAT.out wr k HI.out.2.2.1
      rw [hat] at hA
      have HA := Lib.hid hA
      have hdr : (rs.map Prod.snd).drop k = x.2 :: (rs.map Prod.snd).drop (k + 1) := by
        rw [List.drop_eq_getElem_cons (by rw [List.length_map]; exact hkn)]
        congr 1
        have := (List.getElem?_eq_some_iff.1 hx).2
        rw [List.getElem_map, this]
      have HDR := Lib.hid hdr
      have hvz := HZ.out x (List.mem_of_getElem? hx)
      obtain ⟨xv, ⟨K, V⟩⟩ := x
      dsimp only at HA HDR hvz
      obtain ⟨n1, b1, hr1⟩ := rvV_wd V.data.toList
      have hwl : wd V.data.toList ≤ V.size := by have := wd_le V.data.toList; rwa [Bo.len] at this
      have HRV1 : Hid (∀ W, Calls Tryd.prog 89 #[.string V] W fun e w' => e = .returned (.tuple #[.int .u64 n1, .int .i64 (wd V.data.toList : Int), .bool b1]) ∧ W = w') := Lib.hid (fun W => by
        have := readVar_any V W (by omega)
        rwa [hr1] at this)
      have hszw := szOf_wd V.data.toList
      obtain ⟨wv, hwv⟩ : ∃ wv, wv = wd V.data.toList := ⟨_, rfl⟩
      rw [← hwv] at hwl HRV1 hszw
      have hext : (V.extract wv V.size).data.toList = V.data.toList.drop wv := Lib.extract_to_end _ _
      have HRV2 : Hid (∀ W, Calls Tryd.prog 89 #[.string (V.extract wv V.size)] W fun e w' => e = .returned (rvV (V.data.toList.drop wv)) ∧ W = w') := Lib.hid (fun W => by
        have := readVar_any (V.extract wv V.size) W (by rw [ByteArray.size_extract]; omega)
        rwa [hext] at this)
      have hwl' : (wv : Int) ≤ V.size := by omega
      have hv9 : (V.size : Int) ≤ 1000000 := by omega
      clear hA hat hdr hx hr1 hwv hext hvz
      cases hrv : Nm.rv (V.data.toList.drop wv) with
      | none =>
        have hr2 : rvV (V.data.toList.drop wv) = .tuple #[.int .u64 0, .int .i64 0, .bool false] := by unfold rvV; rw [hrv]
        rw [hr2] at HRV2
        have HON : Hid (O = none) := Lib.hid (by
          rw [HI.out.2.1, HDR.out, rdB]
          rw [hszw, hrv]
          rfl)
        clear hr2 hrv hszw
        go_wp2_with fail
        refine HA.out.mono ?_
        rintro e w1 ⟨rfl, hb1⟩
        go_wp2_with fail
        refine (HRV1.out _).mono ?_
        rintro e w2 ⟨rfl, rfl⟩
        go_wp2_with fail
        refine (HRV2.out _).mono ?_
        rintro e w3 ⟨rfl, rfl⟩
        go_wp2_with fail
        go_ret2
        exact ⟨HI.out.2.2.1.trans (hb1.mono HI.out.2.2.1.size), by rw [HON.out]; rfl⟩
      | some z =>
        obtain ⟨n, zw⟩ := z
        have hnb := (Nm.row_rv hrv).2.2.2
        have hr2 : rvV (V.data.toList.drop wv) = .tuple #[.int .u64 (n : Int), .int .i64 (zw : Int), .bool true] := by unfold rvV; rw [hrv]
        rw [hr2] at HRV2
        have HSZ : Hid (szOf V.data.toList = some n) := Lib.hid (by rw [hszw, hrv]; rfl)
        have hws : IntKind.u64.wrap (S1.size : Int) = S1.size := by rw [IntKind.wrap_u64]; omega
        clear hr2 hrv hszw
        by_cases hlt : S1.size < n
        · have hlt' : (S1.size : Int) < n := by omega
          have HON : Hid (O = none) := Lib.hid (by
            rw [HI.out.2.1, HDR.out, rdB, HSZ.out]
            dsimp only
            rw [if_pos (by rw [Bo.len]; exact hlt)]
            rfl)
          clear hnb
          go_wp2_with fail
          refine HA.out.mono ?_
          rintro e w1 ⟨rfl, hb1⟩
          go_wp2_with fail
          refine (HRV1.out _).mono ?_
          rintro e w2 ⟨rfl, rfl⟩
          go_wp2_with fail
          refine (HRV2.out _).mono ?_
          rintro e w3 ⟨rfl, rfl⟩
          go_wp2_with fail
          go_ret2
          exact ⟨HI.out.2.2.1.trans (hb1.mono HI.out.2.2.1.size), by rw [HON.out]; rfl⟩
        · have hlt' : ¬ (S1.size : Int) < n := by omega
          have hle' : (n : Int) ≤ S1.size := by omega
          have HOP : Hid (∀ W, Calls Tryd.prog 64 #[.string (S1.extract 0 n)] W (Bo.Opened (Bo.opn (S1.data.toList.take n)) W)) := Lib.hid (fun W => by
            have := Bo.open_any (S1.extract 0 n) W (by rw [ByteArray.size_extract]; omega)
            rwa [extract_pre] at this)
          clear hnb
          cases hop : Bo.opn (S1.data.toList.take n) with
          | none =>
            have HON : Hid (O = none) := Lib.hid (by
              rw [HI.out.2.1, HDR.out, rdB, HSZ.out]
              dsimp only
              rw [if_neg (by rw [Bo.len]; exact hlt), hop]
              rfl)
            rw [hop] at HOP
            clear hop
            go_wp2_with fail
            refine HA.out.mono ?_
            rintro e w1 ⟨rfl, hb1⟩
            have HB1 := Lib.hid (HI.out.2.2.1.trans (hb1.mono HI.out.2.2.1.size))
            have HBB := Lib.hid (HI.out.1.below hb1)
            clear hb1
            go_wp2_with fail
            refine (HRV1.out _).mono ?_
            rintro e w2 ⟨rfl, rfl⟩
            go_wp2_with fail
            refine (HRV2.out _).mono ?_
            rintro e w3 ⟨rfl, rfl⟩
            go_wp2_with fail
            refine (HOP.out _).mono ?_
            rintro e w4 ⟨hb4, rfl⟩
            go_wp2_with fail
            go_ret2
            exact ⟨HB1.out.trans (hb4.mono HB1.out.size), by rw [HON.out]; rfl⟩
          | some bs =>
            have HSTEP : Hid (∀ x : BL1, x.es = bs → O = contB ((l ++ [x]).map BL1.es) (rdB (S1.data.toList.drop n) ((rs.map Prod.snd).drop (k + 1)))) := Lib.hid (fun x hx => by
              rw [HI.out.2.1, HDR.out, rdB, HSZ.out]
              dsimp only
              rw [if_neg (by rw [Bo.len]; exact hlt), hop]
              dsimp only
              rw [List.map_append, List.map_singleton, hx]
              cases rdB (S1.data.toList.drop n) ((rs.map Prod.snd).drop (k + 1)) with
              | none => rfl
              | some q => simp [contB])
            rw [hop] at HOP
            clear hop
            go_wp2_with fail
            refine HA.out.mono ?_
            rintro e w1 ⟨rfl, hb1⟩
            have HB1 := Lib.hid (HI.out.2.2.1.trans (hb1.mono HI.out.2.2.1.size))
            have HBB := Lib.hid (HI.out.1.below hb1)
            clear hb1
            go_wp2_with fail
            refine (HRV1.out _).mono ?_
            rintro e w2 ⟨rfl, rfl⟩
            go_wp2_with fail
            refine (HRV2.out _).mono ?_
            rintro e w3 ⟨rfl, rfl⟩
            go_wp2_with fail
            refine (HOP.out _).mono ?_
            rintro e w4 ⟨hb4, p4, v4, rs4, rfl, hblk4, hes4, hp4⟩
            obtain ⟨ua, uc, hu⟩ := HBB.out.shape
            subst hu
            have hbb4 := HBB.out.below hb4
            have hraw : w4.ownsRow w.heap.size 76 1 (.slice ua l.length uc) l.length (ptrs l) := hbb4.own
            have HBB4 := Lib.hid hbb4
            have HB4 := Lib.hid (HB1.out.trans (hb4.mono HB1.out.size))
            have HBLK := Lib.hid (blk_low HB1.out.size hblk4)
            have HP4 := Lib.hid (Nat.le_trans HB1.out.size hp4)
            have HES4 := Lib.hid hes4
            have HLK : Hid (l.length = k) := Lib.hid HI.out.2.2.2
            clear hb4 hbb4 hblk4 hes4 hp4
            go_wp2_with (at_builtin; go_must (refine wpList_append_own _ rfl _ _ 77 rfl w.heap.size 76 i1 _ 1 8 Tryd.underlying77 hi hz0 hz1 hz2 rfl (by decide) _ _ _ rfl (hraw.alloc _) ⟨w4.heap.size, 0, none⟩ 1 1 [.pointer (some ⟨p4, 0, none⟩)] rfl rfl (World.news_of_block (cs := #[.pointer (some ⟨p4, 0, none⟩)]) (t := 76) (fr := (0, 0)) (heap_alloc_new w4 _)) ?c2 ?c3 ?c4 ?c5 ?_))
            case c2 => intro v hv; rw [List.mem_singleton.1 hv]; rfl
            case c3 => have := HLK.out; unfold maxLen; omega
            case c4 => have := HLK.out; omega
            case c5 => have := HB4.out.size; simp; omega
            intro v5 w5 hown5 hgrow5 _
            have R5 : Blks w5 w.heap.size v5 (l ++ [⟨p4, v4, rs4⟩]) ∧ Below w.heap.size w w5 := by
              have hkeep : ∀ {p : Nat} {v : Value} {r : List Bo.Row}, Blk w4 w.heap.size p v r → Blk w5 w.heap.size p v r := fun {p v r} hb => by
                have hby : ∀ (b : Nat) (cs : Array Value) (t : TypeId), w4.heap[b]? = some (Obj.cells cs t (0, 0)) → t ≠ 76 → w5.heap[b]? = w4.heap[b]? := fun b cs t hb1 hne => by
                  have hlt := heap_lt hb1
                  rw [hgrow5.block b (by rw [World.size_alloc]; omega) (fun e => by
                    obtain ⟨cs2, hc2⟩ := Bo.ownsRow_obj hraw e.symm
                    rw [hb1] at hc2
                    simp only [Option.some.injEq, Obj.cells.injEq] at hc2
                    exact hne hc2.2.1)]
                  exact (box_below w4 _).block b hlt
                refine ⟨(hby _ _ _ hb.box (by decide)).trans hb.box, ⟨Bo.ownsRow_frame hb.own.own fun b hbk => ?_, fun x hx => ?_⟩⟩
                · obtain ⟨cs, hc⟩ := Bo.ownsRow_obj hb.own.own hbk
                  exact hby b cs _ hc (by decide)
                · refine (hb.own.sees x hx).frame fun b cs fz hb1 => ?_
                  have hlt := heap_lt hb1
                  rw [hgrow5.block b (by rw [World.size_alloc]; omega) (fun e => by
                    obtain ⟨cs2, hc2⟩ := Bo.ownsRow_obj hraw e.symm
                    rw [hb1] at hc2
                    simp only [Option.some.injEq, Obj.cells.injEq] at hc2
                    exact absurd hc2.2.1 (by decide))]
                  exact (box_below w4 _).block b hlt
              refine ⟨⟨?_, fun y hy => ?_, fun y hy => ?_⟩, ?_⟩
              · rw [List.length_append]
                show w5.ownsRow _ _ 1 v5 (l.length + 1) (ptrs (l ++ [⟨p4, v4, rs4⟩]))
                rw [show ptrs (l ++ [⟨p4, v4, rs4⟩]) = ptrs l ++ [.pointer (some ⟨p4, 0, none⟩)] by simp [ptrs]]
                exact hown5
              · rcases List.mem_append.1 hy with hy | hy
                · exact hkeep (HBB4.out.blk y hy)
                · rw [List.mem_singleton.1 hy]; exact hkeep HBLK.out
              · rcases List.mem_append.1 hy with hy | hy
                · exact HBB4.out.low y hy
                · rw [List.mem_singleton.1 hy]; exact HP4.out
              · exact (HB4.out.alloc HB4.out.size _).grown hgrow5 (by have := HB4.out.size; simp; omega) (fun j hj => (World.ownsRow.lt hraw j hj).1)
            have HR5 := Lib.hid R5
            clear R5 hown5 hgrow5 hraw
            go_wp2_with fail
            go_roundw
            case rel => exact ⟨k + 1, S1.extract n S1.size, l ++ [⟨p4, v4, rs4⟩], by omega, by go_num, rfl, by rw [ByteArray.size_extract]; omega, Lib.hid ⟨HR5.out.1, by rw [Lib.extract_to_end]; exact HSTEP.out _ HES4.out, HR5.out.2, by rw [List.length_append, HLK.out]; rfl⟩⟩
            case measure => simp [intOf]; omega
    · obtain rfl : k = rs.length := by omega
      have hkn' : ¬ ((rs.length : Nat) : Int) < rs.length := by omega
      have HOE : Hid (O = some (l.map BL1.es)) := Lib.hid (by
        rw [HI.out.2.1, List.drop_of_length_le (by rw [List.length_map]; exact Nat.le_refl _), rdB]
        simp [contB])
      go_wp2_with fail
      go_ret2
      exact ⟨HI.out.2.2.1, by rw [HOE.out]; exact ⟨_, l, rfl, HI.out.1, rfl⟩⟩
end Go.Proofs.YtphoihkbdogkhaaDoor.Bn.Tw

/- The walk of table's read. -/
namespace Go.Proofs.YtphoihkbdogkhaaDoor.Bn.Tw
open Go Go.RowKit Go.Proofs.YtphoihkbdogkhaaDoor.Tb
open Go.Proofs.YtphoihkbdogkhaaDoor.Bn.Bo (Blk heap_lt cell_of)
set_option linter.unusedVariables false
set_option maxRecDepth 100000

/-- A table was read, or none. -/
def ReadBack (o : Option T) (w : World) (x : Ending) (w' : World) : Prop :=
  Below w.heap.size w w' ∧ match o with
  | none => ∃ p, x = .returned (.tuple #[.pointer p, .bool false])
  | some t => ∃ p f ix bv l, x = .returned (.tuple #[.pointer (some ⟨p, 0, none⟩), .bool true]) ∧ Tab1 w' w.heap.size p f ix bv l ∧ tOf f ix l = t
theorem blks_low {w : World} {base b2 : Nat} {v : Value} {l : List BL1} (hb : b2 ≤ base) (h : Blks w base v l) : Blks w b2 v l := ⟨row_low hb h.own, fun x hx => blk_low hb (h.blk x hx), fun x hx => Nat.le_trans hb (h.low x hx)⟩
theorem four_at (s : ByteArray) (m : Nat) (h : m + 4 ≤ s.size) (hs : s.size ≤ 1000000) (w : World) : Calls Tryd.prog 63 #[.string (s.extract m s.size), .int .i64 4] w (fun e w' => e = .returned (.tuple #[.int .u64 (Nm.val ((s.data.toList.drop m).take 4)), .bool true]) ∧ w = w') := by
  have := readBig_yes (s.extract m s.size) 4 w (by omega) (by omega) (by rw [ByteArray.size_extract]; omega) (by rw [ByteArray.size_extract]; omega)
  rwa [Lib.extract_to_end] at this
theorem extract_mid (s : ByteArray) (a b : Nat) : (s.extract a b).data.toList = (s.data.toList.take b).drop a := by
  simp [ByteArray.data_extract, List.drop_take]
theorem opn_len {s : List UInt8} {l : List En} (h : Bo.opn s = some l) : l.length ≤ s.length ∧ ∀ x ∈ l, x.val.size ≤ 1024 ∧ x.key.size ≤ 1024 := by
  obtain ⟨hg, hb⟩ := Bo.opn_some h
  constructor
  · have h1 := Bo.rows_least l Bo.st0
    have h2 := Bo.fin_length (Bo.run Bo.st0 l)
    have h3 := Bo.run_rows l Bo.st0
    rw [show Bo.st0.rows = [] from rfl, List.nil_append] at h3
    rw [← hb]
    show l.length ≤ (Bo.fin (Bo.run Bo.st0 l)).length
    rw [h2, h3]
    omega
  · have : ∀ (l : List En) (s : Bo.St), Bo.goodb s l = true → ∀ x ∈ l, x.val.size ≤ 1024 ∧ x.key.size ≤ 1024 := by
      intro l
      induction l with
      | nil => intro s _ x hx; cases hx
      | cons e l ih =>
        intro s hg x hx
        rw [Bo.goodb, Bool.and_eq_true, decide_eq_true_eq] at hg
        rcases List.mem_cons.1 hx with rfl | hx
        · have := Bo.err_size hg.1; omega
        · exact ih _ hg.2 x hx
    exact this l _ hg
set_option maxHeartbeats 4000000 in
theorem read_any (s : ByteArray) (w : World) (hs : s.size ≤ 1000000) :
    Calls Tryd.prog 35 #[.string s] w (ReadBack (rd s.data.toList) w) := by
  obtain ⟨O, hO⟩ : ∃ O, O = rd s.data.toList := ⟨_, rfl⟩
  rw [← hO]
  unfold rd at hO
  rw [Bo.len] at hO
  by_cases h16 : s.size < 16
  · rw [if_pos h16] at hO
    subst hO
    have h1 : (s.size : Int) - 16 < 0 := by omega
    clear hs h16
    go_enter Tryd.func35, Tryd.ntmps35
    go_wp2_with fail
    go_ret2
    exact ⟨Below.refl _ _, none, rfl⟩
  · rw [if_neg h16] at hO
    obtain ⟨m, hm⟩ : ∃ m, s.size = m + 16 := ⟨s.size - 16, by omega⟩
    have hsz : (s.size : Int) - 16 = m := by omega
    have hF := Lib.hid (four_at s m (by omega) hs)
    have hI := Lib.hid (four_at s (m + 4) (by omega) hs)
    have e1 : Nm.val ((s.data.toList.drop m).take 4) = fAt s.data.toList := by unfold fAt; rw [Bo.len, hm, Nat.add_sub_cancel]
    have e2 : Nm.val ((s.data.toList.drop (m + 4)).take 4) = iAt s.data.toList := by unfold iAt; rw [Bo.len, hm, show m + 16 - 12 = m + 4 by omega]
    rw [e1] at hF
    rw [e2] at hI
    have hfb : fAt s.data.toList < 4294967296 := by
      rw [← e1]
      have h1 := Nm.val_lt ((s.data.toList.drop m).take 4)
      have h2 : ((s.data.toList.drop m).take 4).length ≤ 4 := by rw [List.length_take]; omega
      exact Nat.lt_of_lt_of_le h1 (Nat.pow_le_pow_right (by omega) h2)
    have hib : iAt s.data.toList < 4294967296 := by
      rw [← e2]
      have h1 := Nm.val_lt ((s.data.toList.drop (m + 4)).take 4)
      have h2 : ((s.data.toList.drop (m + 4)).take 4).length ≤ 4 := by rw [List.length_take]; omega
      exact Nat.lt_of_lt_of_le h1 (Nat.pow_le_pow_right (by omega) h2)
    rw [hm, Nat.add_sub_cancel] at hO
    generalize fAt s.data.toList = F at *
    generalize iAt s.data.toList = I at *
    have hwm : IntKind.u64.wrap (m : Int) = m := by rw [IntKind.wrap_u64]; omega
    have hm9 : (m : Int) ≤ 1000000 := by omega
    have HS := Lib.hid hs; have HM := Lib.hid hm; have HFB := Lib.hid hfb; have HIB := Lib.hid hib
    have hb1 : (m : Int) ≤ s.size := by omega
    have hb2 : (m : Int) + 4 ≤ s.size := by omega
    clear e1 e2 h16 hm hfb hib
    by_cases hc : I < F ∨ m < I
    · rw [if_pos hc] at hO
      subst hO
      clear hs
      by_cases hc1 : I < F
      · have hc1' : (I : Int) < F := by omega
        clear hc
        go_enter Tryd.func35, Tryd.ntmps35
        go_wp2_with fail
        refine (hF.out _).mono ?_
        rintro e w1 ⟨rfl, rfl⟩
        go_wp2_with fail
        refine (hI.out _).mono ?_
        rintro e w2 ⟨rfl, rfl⟩
        go_wp2_with fail
        go_ret2
        exact ⟨Below.refl _ _, none, rfl⟩
      · have hc1' : ¬ (I : Int) < F := by omega
        have hc2' : (m : Int) < I := by omega
        clear hc
        go_enter Tryd.func35, Tryd.ntmps35
        go_wp2_with fail
        refine (hF.out _).mono ?_
        rintro e w1 ⟨rfl, rfl⟩
        go_wp2_with fail
        refine (hI.out _).mono ?_
        rintro e w2 ⟨rfl, rfl⟩
        go_wp2_with fail
        go_ret2
        exact ⟨Below.refl _ _, none, rfl⟩
    · rw [if_neg hc] at hO
      have hc1' : ¬ (I : Int) < F := by omega
      have hc2' : ¬ (m : Int) < I := by omega
      have hq1 : (F : Int) ≤ I := by omega
      have hq2 : (I : Int) ≤ m := by omega
      have HOP := Lib.hid (fun W => Bo.open_any (s.extract I m) W (by have := HS.out; have := HM.out; rw [ByteArray.size_extract]; omega))
      rw [extract_mid] at HOP
      have HCL := Lib.hid (fun W => clone_any (s.extract F I) W (by have := HS.out; rw [ByteArray.size_extract]; omega))
      clear hs
      cases hop : Bo.opn ((s.data.toList.take m).drop I) with
      | none =>
        rw [hop] at HOP hO
        subst hO
        clear hop
        go_enter Tryd.func35, Tryd.ntmps35
        go_wp2_with fail
        refine (hF.out _).mono ?_
        rintro e w1 ⟨rfl, rfl⟩
        go_wp2_with fail
        refine (hI.out _).mono ?_
        rintro e w2 ⟨rfl, rfl⟩
        go_wp2_with fail
        refine (HOP.out _).mono ?_
        rintro e w3 ⟨hb3, rfl⟩
        go_wp2_with fail
        go_ret2
        exact ⟨hb3, none, rfl⟩
      | some x =>
        have hol := opn_len hop
        have hxl : x.length ≤ 1000000 := by
          have h1 := hol.1
          rw [List.length_drop, List.length_take, Bo.len] at h1
          have := HS.out
          omega
        have HXS := Lib.hid hol.2
        rw [hop] at HOP hO
        dsimp only at hO
        have HO := Lib.hid hO; clear hO
        have HRB := Lib.hid (fun W (p : Nat) (v : Value) (rs : List Bo.Row) (hb : Blk W w.heap.size p v rs) (he : rs.map Prod.snd = x) => readBlocks_any (s.extract 0 F) hb (by have := HS.out; rw [ByteArray.size_extract]; omega) (by rw [← he, List.length_map] at hxl; exact hxl) (fun y hy => by
          have := (HXS.out y.2 (by rw [← he]; exact List.mem_map.2 ⟨y, hy, rfl⟩)).1
          omega))
        rw [extract_pre] at HRB
        have hfm : (F : Int) ≤ s.size := by omega
        have him : (I : Int) ≤ s.size := by omega
        clear hop hol hxl
        go_enter Tryd.func35, Tryd.ntmps35
        go_wp2_with fail
        refine (hF.out _).mono ?_
        rintro e w1 ⟨rfl, rfl⟩
        go_wp2_with fail
        refine (hI.out _).mono ?_
        rintro e w2 ⟨rfl, rfl⟩
        go_wp2_with fail
        refine (HOP.out _).mono ?_
        rintro e w3 ⟨hb3, xp, xv, xrs, rfl, hblk, hes, hxp⟩
        have HB3 := Lib.hid hb3; have HBLK := Lib.hid hblk; have HES := Lib.hid hes
        have HR := Lib.hid (HRB.out w3 xp xv xrs hblk hes)
        rw [hes] at HR
        clear hb3 hblk hes
        go_wp2_with fail
        refine HR.out.mono ?_
        cases hrb : rdB (s.data.toList.take F) x with
        | none =>
          have hO := HO.out
          rw [hrb] at hO
          dsimp only at hO
          clear HO
          subst hO
          rintro e w4 ⟨hb4, rfl⟩
          have HB4 := Lib.hid (HB3.out.trans (hb4.mono HB3.out.size))
          clear hb4 hrb
          go_wp2_with fail
          refine (HCL.out _).mono ?_
          rintro e w5 ⟨rfl, hb5⟩
          have HB5 := Lib.hid (HB4.out.trans (hb5.mono HB4.out.size))
          clear hb5
          go_wp2_with fail
          go_ret2
          exact ⟨HB5.out.alloc HB5.out.size _, _, rfl⟩
        | some bs =>
          have hO := HO.out
          rw [hrb] at hO
          dsimp only at hO
          have HO2 := Lib.hid hO
          clear HO hO
          rintro e w4 ⟨hb4, bv, l, rfl, hbl, hle⟩
          have HB4 := Lib.hid (HB3.out.trans (hb4.mono HB3.out.size))
          have HBLK4 := Lib.hid (HBLK.out.below hb4)
          have HBL := Lib.hid (blks_low HB3.out.size hbl)
          have HLE := Lib.hid hle
          obtain ⟨ba, bc, hbv⟩ := hbl.shape
          subst hbv
          clear hb4 hrb hbl hle
          go_wp2_with fail
          refine (HCL.out _).mono ?_
          rintro e w5 ⟨rfl, hb5⟩
          have HB5 := Lib.hid (HB4.out.trans (hb5.mono HB4.out.size))
          have HBLK5 := Lib.hid (HBLK4.out.below hb5)
          have HBL5 := Lib.hid (HBL.out.below hb5)
          clear hb5
          go_wp2_with fail
          go_ret2
          refine ⟨HB5.out.alloc HB5.out.size _, ?_⟩
          rw [HO2.out]
          exact ⟨w5.heap.size, s.extract F I, ⟨xp, xv, xrs⟩, _, l, rfl, ⟨heap_alloc_new w5 _, (HBLK5.out.below (box_below w5 _)), HBL5.out.below (box_below w5 _)⟩, by
            show (⟨(s.extract F I).data.toList, xrs.map Prod.snd, l.map BL1.es⟩ : T) = _
            rw [extract_mid, HES.out, HLE.out]⟩
end Go.Proofs.YtphoihkbdogkhaaDoor.Bn.Tw

/- The walk of table's Open. -/
namespace Go.Proofs.YtphoihkbdogkhaaDoor.Bn.Tw
open Go Go.RowKit Go.Proofs.YtphoihkbdogkhaaDoor.Tb
open Go.Proofs.YtphoihkbdogkhaaDoor.Bn.Bo (Blk heap_lt cell_of)
set_option linter.unusedVariables false
set_option maxRecDepth 100000

theorem opn_asc {s : List UInt8} {l : List En} (h : Bo.opn s = some l) : Bo.Asc l := (Bo.good_asc l Bo.st0 (Bo.opn_some h).1).2
theorem rdB_some : ∀ (r : List En) (s : List UInt8) (bs : List (List En)), rdB s r = some bs → bs.length = r.length ∧ bs.flatten.length ≤ s.length ∧ ∀ b ∈ bs, b.length ≤ s.length ∧ Bo.Asc b ∧ ∀ x ∈ b, x.val.size ≤ 1024 ∧ x.key.size ≤ 1024
  | [], s, bs, h => by
    rw [rdB] at h
    simp only [Option.some.injEq] at h
    subst h
    exact ⟨rfl, by simp, fun b hb => by cases hb⟩
  | x :: r, s, bs, h => by
    rw [rdB] at h
    cases hz : szOf x.val.data.toList with
    | none => rw [hz] at h; cases h
    | some n =>
      rw [hz] at h
      dsimp only at h
      split at h
      · cases h
      · rename_i hn
        cases ho : Bo.opn (s.take n) with
        | none => rw [ho] at h; cases h
        | some b =>
          rw [ho] at h
          dsimp only at h
          cases hr : rdB (s.drop n) r with
          | none => rw [hr] at h; cases h
          | some q =>
            rw [hr] at h
            simp only [Option.some.injEq] at h
            subst h
            obtain ⟨i1, i2, i3⟩ := rdB_some r _ q hr
            obtain ⟨o1, o2⟩ := opn_len ho
            rw [List.length_take] at o1
            rw [List.length_drop] at i2
            refine ⟨by rw [List.length_cons, i1, List.length_cons], by rw [List.flatten_cons, List.length_append]; omega, fun b' hb' => ?_⟩
            rcases List.mem_cons.1 hb' with rfl | hb'
            · exact ⟨by omega, opn_asc ho, o2⟩
            · obtain ⟨j1, j2⟩ := i3 b' hb'
              rw [List.length_drop] at j1
              exact ⟨by omega, j2⟩
/-- What holds of a table that was read. -/
structure Fine (t : T) (n : Nat) : Prop where
  i : t.idx.length ≤ n
  ia : Bo.Asc t.idx
  l : t.blks.length = t.idx.length
  tt : t.blks.flatten.length ≤ n
  b : ∀ b ∈ t.blks, b.length ≤ n ∧ Bo.Asc b ∧ ∀ x ∈ b, x.val.size ≤ 1024 ∧ x.key.size ≤ 1024
theorem rd_fine {s : List UInt8} {t : T} (h : rd s = some t) : Fine t s.length := by
  unfold rd at h
  split at h
  · cases h
  · split at h
    · cases h
    · cases hx : Bo.opn ((s.take (s.length - 16)).drop (iAt s)) with
      | none => rw [hx] at h; cases h
      | some x =>
        rw [hx] at h
        dsimp only at h
        cases hr : rdB (s.take (fAt s)) x with
        | none => rw [hr] at h; cases h
        | some bs =>
          rw [hr] at h
          simp only [Option.some.injEq] at h
          subst h
          obtain ⟨i1, i2, i3⟩ := rdB_some _ _ _ hr
          obtain ⟨o1, o2⟩ := opn_len hx
          rw [List.length_drop, List.length_take] at o1
          rw [List.length_take] at i2
          refine ⟨?_, opn_asc hx, i1, ?_, fun b hb => ?_⟩
          · show x.length ≤ _; omega
          · show bs.flatten.length ≤ _; omega
          · obtain ⟨j1, j2⟩ := i3 b hb
            rw [List.length_take] at j1
            exact ⟨by omega, j2⟩
theorem Fine.small {f : ByteArray} {ix : BL1} {l : List BL1} {n : Nat} (h : Fine (tOf f ix l) n) (hn : n ≤ 1000000) : Small l ∧ ix.rs.length ≤ 1000000 ∧ Bo.Asc ix.es ∧ (∀ x ∈ l, Bo.Asc x.es) ∧ (l.map BL1.es).flatten.length ≤ n := by
  have hi : ix.rs.length ≤ n := by have := h.i; rwa [List.length_map] at this
  have hl : l.length ≤ n := by have := h.l; have h2 := h.i; rw [List.length_map] at this; omega
  have hb : ∀ x ∈ l, x.rs.length ≤ n ∧ Bo.Asc x.es ∧ ∀ y ∈ x.es, y.val.size ≤ 1024 ∧ y.key.size ≤ 1024 := fun x hx => by
    obtain ⟨b1, b2, b3⟩ := h.b x.es (List.mem_map.2 ⟨x, hx, rfl⟩)
    rw [List.length_map] at b1
    exact ⟨b1, b2, b3⟩
  refine ⟨⟨by omega, fun x hx => by have := (hb x hx).1; omega, fun x hx y hy => ?_⟩, by omega, h.ia, fun x hx => (hb x hx).2.1, h.tt⟩
  have := (hb x hx).2.2 y.2 (List.mem_map.2 ⟨y, hy, rfl⟩)
  omega
theorem entOf_seq (x : En) : (entOf x).seq < 18446744073709551616 := by
  unfold entOf
  split
  · show 0 < _; omega
  · split
    · show 18446744073709551615 - _ < _; omega
    · show 0 < _; omega
/-- A table was opened, or none. -/
def OpenBack (o : Option T) (w : World) (x : Ending) (w' : World) : Prop :=
  Below w.heap.size w w' ∧ match o with
  | none => x = .returned (.tuple #[.pointer none, .int .i64 8])
  | some t => ∃ p f ix bv l, x = .returned (.tuple #[.pointer (some ⟨p, 0, none⟩), .int .i64 0]) ∧ Tab1 w' w.heap.size p f ix bv l ∧ tOf f ix l = t
set_option maxHeartbeats 2000000 in
theorem open_any (s : ByteArray) (w : World) (hs : s.size ≤ 100000) (hT : Tab w) :
    Calls Tryd.prog 12 #[.string s] w (OpenBack (openT s.data.toList) w) := by
  have HR := Lib.hid (read_any s w (by omega))
  have HS := Lib.hid hs; have HT := Lib.hid hT
  cases hr : rd s.data.toList with
  | none =>
    have e : openT s.data.toList = none := by unfold openT; rw [hr]
    rw [hr] at HR
    rw [e]
    clear hs hT hr e
    go_enter Tryd.func12, Tryd.ntmps12
    go_wp2_with fail
    refine HR.out.mono ?_
    rintro x w1 ⟨hb1, p, rfl⟩
    go_wp2_with fail
    go_ret2
    exact ⟨hb1, rfl⟩
  | some t =>
    have e : openT s.data.toList = if bldT (Tb.all t) = s.data.toList then some t else none := by unfold openT; rw [hr]
    have HFI := Lib.hid (rd_fine hr)
    rw [hr] at HR
    have HEQ : Hid ((bmk (bldT (Tb.all t)) = s) ↔ bldT (Tb.all t) = s.data.toList) := Lib.hid ⟨fun h => by rw [← h]; rfl, fun h => by rw [h]; rfl⟩
    have HE := Lib.hid e
    clear hs hT hr e
    go_enter Tryd.func12, Tryd.ntmps12
    go_wp2_with fail
    refine HR.out.mono ?_
    rintro x w1 ⟨hb1, p, f, ix, bv, l, rfl, htab, hof⟩
    have hfi := HFI.out
    rw [← hof, Bo.len] at hfi
    obtain ⟨f1, f2, f3, f4, f5⟩ := hfi.small (by have := HS.out; omega)
    have HALL := Lib.hid (all_any htab f1 (by have := HS.out; omega))
    rw [hof] at HALL
    have HTAB := Lib.hid htab; have HB1 := Lib.hid hb1; have HOF := Lib.hid hof
    have HAN : Hid ((Tb.all t).length ≤ 100000) := Lib.hid (by
      unfold Tb.all
      rw [List.length_map, ← hof]
      have := HS.out
      exact Nat.le_trans f5 this)
    have HAS : Hid (∀ e ∈ Tb.all t, e.seq < 18446744073709551616) := Lib.hid (fun e he => by
      obtain ⟨x, _, rfl⟩ := List.mem_map.1 he
      exact entOf_seq x)
    clear hb1 htab hof hfi f1 f2 f3 f4 f5
    go_wp2_with fail
    refine HALL.out.mono ?_
    rintro x w2 ⟨v, rfl, hown, hb2⟩
    obtain ⟨va, vc, hv⟩ := Bo.row_any hown
    subst hv
    have HBD := Lib.hid (build_any hown rfl HAN.out HAS.out ((HT.out.below HB1.out).below hb2))
    have HB2 := Lib.hid hb2
    clear hown hb2
    go_wp2_with fail
    refine HBD.out.mono ?_
    rintro x w3 ⟨rfl, hb3⟩
    have HB3 := Lib.hid (HB2.out.trans (hb3.mono HB2.out.size))
    clear hb3
    obtain ⟨B, hB⟩ : ∃ B, B = bmk (bldT (Tb.all t)) := ⟨_, rfl⟩
    rw [← hB] at HEQ ⊢
    clear hB
    by_cases hbs : B = s
    · have heq : (B.toList == s.toList) = true := by rw [hbs]; simp
      have HO : Hid (openT s.data.toList = some t) := Lib.hid (by rw [HE.out, if_pos (HEQ.out.1 hbs)])
      clear hbs
      go_wp2_with fail
      go_ret2
      rw [HO.out]
      exact ⟨HB1.out.trans (HB3.out.mono HB1.out.size), p, f, ix, bv, l, rfl, HTAB.out.below HB3.out, HOF.out⟩
    · have heq : (B.toList == s.toList) = false := by
        rw [beq_eq_false_iff_ne, ByteArray.toList_eq, ByteArray.toList_eq]
        intro e
        exact hbs (ByteArray.ext (Array.toList_inj.1 e))
      have HO : Hid (openT s.data.toList = none) := Lib.hid (by rw [HE.out, if_neg (fun h => hbs (HEQ.out.2 h))])
      clear hbs
      go_wp2_with fail
      go_ret2
      rw [HO.out]
      exact ⟨HB1.out.trans (HB3.out.mono HB1.out.size), rfl⟩
end Go.Proofs.YtphoihkbdogkhaaDoor.Bn.Tw
