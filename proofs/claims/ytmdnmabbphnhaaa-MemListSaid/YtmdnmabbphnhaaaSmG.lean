/- The walk of List.put over a list that lies in memory. -/
import Derived.Test.YtmdnmabbphnhaaaSmF
import Derived.Deep.AppendLies
import Derived.Deep.RegionLaw
import Derived.Laws.OwnMore
import Derived.Deep.Cut
import Derived.Deep.DeepCutAuto
namespace Go.Proofs.Ytmdnmabbphnhaaa.Sm
open Go.Proofs.Ytmdnmabbphnhaaa.Sk
open Go Go.RowKit
set_option linter.unusedVariables false

theorem info_node : (Try.prog.info? 77).map (fun i => (i.zero, i.size, i.bytes)) = some (some (.agg #[.string ⟨#[]⟩, .string ⟨#[]⟩, .string ⟨#[]⟩, .int .u64 0, .bool false, .slice none 0 0]), 6, 88) := by kernel_rfl
theorem make_int (w : World) (n : Nat) (hn : n ≤ 1000000) : (Instr.makeSlice 54 (.int .i64 (n : Int)) (.int .i64 (n : Int))).run Try.prog w = .ok (.slice (some ⟨w.heap.size, 0, none⟩) n n) (w.alloc (.cells (Array.replicate n (.int .i64 0)) 3)) := by
  obtain ⟨i0, hi, hz0, hz1, hz2⟩ := info_parts info_int
  have h := run_make (P := Try.prog) w 54 3 i0 (.int .i64 0) Try.underlying54 hi hz0 .i64 .i64 (n : Int) (n : Int) (by omega) (by omega) (by rw [hz2]; omega) (by omega)
  have e : madeCells (Value.int .i64 0).cells (((n : Nat) : Int).toNat * i0.size) = Array.replicate n (.int .i64 0) := by
    rw [hz1]
    apply Array.toList_inj.1
    rw [show (Value.int .i64 0).cells = #[.int .i64 0] from rfl, toList_madeCells_one]
    simp
  rw [e] at h
  simpa using h

/-- A cell stays where it is, and as it is. -/
theorem keep_alloc {w : World} {b : Nat} {v : Value} (o : Obj) (h : w.cell? ⟨b, 0, none⟩ = some v ∧ w.frozen? ⟨b, 0, none⟩ = false) : (w.alloc o).cell? ⟨b, 0, none⟩ = some v ∧ (w.alloc o).frozen? ⟨b, 0, none⟩ = false := by
  have hb : b < w.heap.size := World.block_lt_of_cell? w _ h.1
  have hB : Below w.heap.size w (w.alloc o) := (Below.refl _ _).alloc (Nat.le_refl _) o
  exact ⟨(hB.cell (p := ⟨b, 0, none⟩) hb).trans h.1, (hB.frozen (p := ⟨b, 0, none⟩) hb).trans h.2⟩

theorem txt_key (K : ByteArray) : (⟨K.data.toList.toArray⟩ : ByteArray) = K := by simp
theorem fixed_of {w : World} {L : Lay} {A B r : List (It Ent)} (h : ListS w L (A ++ B) r) (K : ByteArray) (V : Ent) (H : Nat) (hH : 1 ≤ H ∧ H ≤ 12) (hK : K.size ≤ 1000000) (hA : ∀ y ∈ A, bytesBefore y.key K.data.toList = true) (hB : ∀ y ∈ B, bytesBefore K.data.toList y.key = true) (hr : r.length < 100000) :
    Fixed L A B r ⟨K.data.toList, V, H⟩ w.heap.size :=
  ⟨h.kin, h.hgt, h.small, hr, hA, hB, h.apart, fun y hy => by
    obtain ⟨cs, e⟩ := h.tall hy
    have := heap_lt e
    omega, hH, by rw [← Lib.size_eq]; exact hK⟩
theorem put_start {w w2 w3 : World} {L : Lay} {A B r : List (It Ent)} (h : ListS w L (A ++ B) r) (K : ByteArray) (V : Ent) (H : Nat) (F : Fixed L A B r ⟨K.data.toList, V, H⟩ w.heap.size)
    (cs : Array Value) (hb2 : Below (w.alloc (.cells (Array.replicate H (.int .i64 0)) 3)).drew.heap.size (w.alloc (.cells (Array.replicate H (.int .i64 0)) 3)).drew w2) (hgrow : (w2.alloc (.cells cs 77)).grownBy w3 L.vec.ownBlock) (gg cap : Nat)
    (hown : w3.ownsRow 0 77 6 (.slice (some ⟨gg, 0, none⟩) (r.length + 1) cap) (r.length + 1) (r.flatMap (nodeCells cvS L.loc) ++ [.string K, .string V.key, .string V.val, .int .u64 (V.seq : Int), .bool V.gone, .slice (some ⟨w.heap.size, 0, none⟩) H H])) (hat : L.vec.ownBlock = some gg ∨ gg = w2.heap.size + 1) :
    Mid cvS (w3.setCell ⟨L.b, 0, none⟩ (.slice (some ⟨gg, 0, none⟩) (r.length + 1) cap)) L A B r ⟨K.data.toList, V, H⟩ w.heap.size (.slice (some ⟨gg, 0, none⟩) (r.length + 1) cap) 0 ∧
      Turns (Own L (A ++ B)) w (w3.setCell ⟨L.b, 0, none⟩ (.slice (some ⟨gg, 0, none⟩) (r.length + 1) cap)) ∧ (L.vec.ownBlock = some gg ∨ w.heap.size ≤ gg) := by
  have hs2 := hb2.size
  simp at hs2
  have hs3 := hgrow.size
  simp at hs3
  have hvl : ∀ b, L.vec.ownBlock = some b → b < w.heap.size := fun b hb => ownsRow_lt h.row hb
  have hk3 : ∀ b, b < w.heap.size → L.vec.ownBlock ≠ some b → w3.heap[b]? = w.heap[b]? := fun b hb hne => by
    rw [hgrow.block b (by simp; omega) (fun e => hne e.symm), RowKit.Below.heap_alloc _ _ _ (by omega), hb2.block b (by simp; omega)]
    exact RowKit.Below.heap_alloc _ _ _ hb
  have hT : w3.heap[w.heap.size]? = some (.cells (Array.replicate H (.int .i64 0)) 3 (0, 0)) := by
    rw [hgrow.block _ (by simp; omega) (fun e => by have := hvl _ e.symm; omega), RowKit.Below.heap_alloc _ _ _ (by omega), hb2.block _ (by simp)]
    exact heap_alloc_new w _
  have hbx : w3.heap[L.b]? = w.heap[L.b]? := hk3 _ (heap_lt h.box) fun e => by
    obtain ⟨cs, e2⟩ := ownsRow_obj h.row e
    exact obj_cells_ne h.box e2 (by decide) rfl
  have hkey := txt_key K
  have hne : ∀ y ∈ r, y.key ≠ K.data.toList := F.fresh
  have hTb : w.heap.size ≠ L.b := by have := heap_lt h.box; omega
  have hgb : gg ≠ L.b := by
    obtain ⟨cs, e2⟩ := ownsRow_obj hown (b := gg) rfl
    exact fun e => obj_cells_ne (hbx.trans h.box) e2 (by decide) e.symm
  refine ⟨Mid.start (w := w) h F ?_ ?_ ?_ fun y hy => ?_, ?_, ?_⟩
  · rw [heap_setCell_same w3 L.b 0 _ _ _ (hbx.trans h.box)]
    rw [List.setIfInBounds_toArray, List.set_cons_zero]
  · refine ownsRow_frame (w := w3) ?_ fun b hb => setCell_kept _ _ _ ?_
    · rw [List.length_append, List.flatMap_append]
      have e1 : r.flatMap (nodeCells cvS (loc' L K.data.toList w.heap.size)) = r.flatMap (nodeCells cvS L.loc) := by
        rw [List.flatMap_def, List.flatMap_def]
        refine congrArg List.flatten (List.map_congr_left fun y hy => ?_)
        unfold nodeCells loc'
        rw [if_neg (hne y hy)]
      have e2 : [(⟨K.data.toList, V, H⟩ : It Ent)].flatMap (nodeCells cvS (loc' L K.data.toList w.heap.size)) = [.string K, .string V.key, .string V.val, .int .u64 (V.seq : Int), .bool V.gone, .slice (some ⟨w.heap.size, 0, none⟩) H H] := by
        show nodeCells _ _ _ ++ [] = _
        unfold nodeCells loc'
        dsimp only
        rw [if_pos rfl, hkey]
        rfl
      rw [e1, e2]
      exact hown
    · have : b = gg := by simpa [Value.ownBlock] using hb.symm
      rw [this]; exact hgb
  · rw [setCell_kept _ _ _ hTb, hT]
    simp
  · obtain ⟨cs, e⟩ := h.tall hy
    rw [setCell_kept _ _ _ (obj_cells_ne h.box e (by decide)).symm]
    exact hk3 _ (heap_lt e) fun e3 => by
      obtain ⟨cs2, e2⟩ := ownsRow_obj h.row e3
      exact obj_cells_ne e e2 (by decide) rfl
  · refine ⟨?_, ?_, ?_, ?_, fun k hk hp => ?_⟩
    · show w3.os = w.os
      rw [hgrow.os]
      exact hb2.os
    · show w3.tape = w.tape
      rw [hgrow.tape]
      exact hb2.tape
    · show w3.output = w.output
      rw [hgrow.output]
      exact hb2.output
    · simp [World.setCell]
      omega
    · rw [setCell_kept _ _ _ (fun e => hp (Or.inl e))]
      exact hk3 k hk fun e => hp (Or.inr (Or.inl e))
  · rcases hat with h1 | h1
    · exact Or.inl h1
    · right; omega

set_option maxHeartbeats 4000000 in
set_option maxRecDepth 100000 in
theorem put_any {w00 : World} {L : Lay} {A B r : List (It Ent)} (h : ListS w00 L (A ++ B) r) (K : ByteArray) (V : Ent) (H : Nat) (hH : 1 ≤ H ∧ H ≤ 12) (hK : K.size ≤ 1000000) (hA : ∀ y ∈ A, bytesBefore y.key K.data.toList = true) (hB : ∀ y ∈ B, bytesBefore K.data.toList y.key = true) (hr : r.length < 100000)
    (Bp : Nat) (hp : w00.heap[Bp]? = some (.cells (prow (keys r) (shape (A ++ B)) K.data.toList 0).toArray 66 (0, 0))) :
    Calls Try.prog 40 #[.pointer (some ⟨L.b, 0, none⟩), .string K, enV V, .slice (some ⟨Bp, 0, none⟩) H 12] w00 fun e w' => e = .returned (.tuple #[]) ∧ ∃ L', L'.b = L.b ∧ ListS w' L' (A ++ ⟨K.data.toList, V, H⟩ :: B) (r ++ [⟨K.data.toList, V, H⟩]) ∧ Turns (Own L (A ++ B)) w00 w' ∧
      ∀ b, Own L' (A ++ ⟨K.data.toList, V, H⟩ :: B) b → Own L (A ++ B) b ∨ w00.heap.size ≤ b := by
  rw [show enV V = .agg #[.string V.key, .string V.val, .int .u64 (V.seq : Int), .bool V.gone] from rfl]
  obtain ⟨w, hw⟩ : ∃ w, w = w00.alloc (.cells #[.string V.key, .string V.val, .int .u64 (V.seq : Int), .bool V.gone] 32) := ⟨_, rfl⟩
  obtain ⟨p0, hp0⟩ : ∃ p0, p0 = w00.heap.size := ⟨_, rfl⟩
  suffices hs : Calls Try.prog 40 #[.pointer (some ⟨L.b, 0, none⟩), .string K, .agg #[.string V.key, .string V.val, .int .u64 (V.seq : Int), .bool V.gone], .slice (some ⟨Bp, 0, none⟩) H 12] w00 (fun e w' => e = .returned (.tuple #[]) ∧ ∃ L', L'.b = L.b ∧ ListS w' L' (A ++ ⟨K.data.toList, V, H⟩ :: B) (r ++ [⟨K.data.toList, V, H⟩]) ∧ Turns (Own L (A ++ B)) w w' ∧
      ∀ b, Own L' (A ++ ⟨K.data.toList, V, H⟩ :: B) b → Own L (A ++ B) b ∨ w.heap.size ≤ b) by
    refine hs.mono ?_
    rintro e w' ⟨rfl, L', h1, h2, h3, h4⟩
    refine ⟨rfl, L', h1, h2, (Turns.of_below (by rw [hw]; exact alloc_below w00 _)).trans h3 (fun b hb => Or.inl hb), fun b hb => (h4 b hb).imp id fun h5 => ?_⟩
    rw [hw, World.size_alloc] at h5
    omega
  have h0 := h
  have hpp := hp
  clear h hp
  have h : ListS w L (A ++ B) r := by rw [hw]; exact h0.alloc _
  have hp : w.heap[Bp]? = some (.cells (prow (keys r) (shape (A ++ B)) K.data.toList 0).toArray 66 (0, 0)) := by rw [hw]; exact (RowKit.Below.heap_alloc _ _ _ (heap_lt hpp)).trans hpp
  have HP0 : Hid (p0 < w.heap.size) := Lib.hid (by rw [hw, hp0, World.size_alloc]; omega)
  have hbx0 : w.heap[p0]? = some (.cells #[.string V.key, .string V.val, .int .u64 (V.seq : Int), .bool V.gone] 32 (0, 0)) := by rw [hw, hp0]; exact heap_alloc_new w00 _
  have HBX : Hid (∀ (W : World) (_ : Below w.heap.size w W) (o : Obj), (W.alloc o).cell? ⟨p0, 0, none⟩ = some (.string V.key) ∧ (W.alloc o).cell? ⟨p0, 1, none⟩ = some (.string V.val) ∧ (W.alloc o).cell? ⟨p0, 2, none⟩ = some (.int .u64 (V.seq : Int)) ∧ (W.alloc o).cell? ⟨p0, 3, none⟩ = some (.bool V.gone)) := Lib.hid (fun W hb o => by
    have h1 : (W.alloc o).heap[p0]? = some (.cells #[.string V.key, .string V.val, .int .u64 (V.seq : Int), .bool V.gone] 32 (0, 0)) := (RowKit.Below.heap_alloc _ _ _ (Nat.lt_of_lt_of_le HP0.out hb.size)).trans ((hb.block p0 HP0.out).trans hbx0)
    obtain ⟨a, b, c, d, _⟩ := box4 h1
    exact ⟨a, b, c, d⟩)
  clear h0 hpp hbx0
  go_enter Try.func40, Try.ntmps40
  refine wp_seq_k (fun K' hK' => ?_)
  have HK := Lib.hid hK'
  clear hK'
  go_wp2_with fail
  refine HK.out _ _ ?_
  clear HK K'
  rw [← hw, ← hp0]
  clear hw hp0 w00
  obtain ⟨i0, hi, hz0, hz1, hz2⟩ := info_parts info_node
  have hmk : ∀ W : World, (Instr.makeSlice 54 (.int .i64 (H : Int)) (.int .i64 (H : Int))).run Try.prog W = .ok (.slice (some ⟨W.heap.size, 0, none⟩) H H) (W.alloc (.cells (Array.replicate H (.int .i64 0)) 3)) := fun W => make_int W H (by omega)
  have HCL := Lib.hid (fun W => clone_any K W (by omega))
  obtain ⟨o1, ho1⟩ : ∃ o1, o1 = (.cells (Array.replicate H (.int .i64 0)) 3 : Obj) := ⟨_, rfl⟩
  have c0 : (w.alloc o1).cell? ⟨L.b, 0, none⟩ = some L.vec := (h.alloc o1).vec
  have hbl : L.b < w.heap.size := heap_lt h.box
  have f0 : (w.alloc o1).frozen? ⟨L.b, 0, none⟩ = false := unfrozen_of (h.alloc o1).box 0
  have hbl1 : L.b < (w.alloc o1).drew.heap.size := by simp; omega
  have hraw : (w.alloc o1).drew.ownsRow 0 77 6 L.vec r.length (r.flatMap (nodeCells cvS L.loc)) := (h.alloc o1).row
  have hvb : L.vec.ownBlock ≠ some L.b := fun e => by
    obtain ⟨cs, e2⟩ := ownsRow_obj h.row e
    exact obj_cells_ne h.box e2 (by decide) rfl
  have hvec : ∃ ao cap, L.vec = .slice ao r.length cap := row_any h.row
  have hrl : r.length ≤ 100000 := by omega
  have HRL := Lib.hid hrl
  have HO1 := Lib.hid ho1
  rw [← ho1] at hmk
  have HH := Lib.hid h; clear h ho1
  have HHA := Lib.hid hA; have HHB := Lib.hid hB; have HHP := Lib.hid hp; have HHR := Lib.hid hr
  have HF := Lib.hid (fixed_of HH.out K V H hH hK hA hB hr)
  clear hA hB hp hr
  generalize hL0 : L.vec = lv at *
  have HLV := Lib.hid hL0
  clear hL0
  have e0 : (w.alloc o1).cell? ⟨p0, 0, none⟩ = some (.string V.key) := (HBX.out _ (Below.refl _ _) o1).1
  have e1 : (w.alloc o1).cell? ⟨p0, 1, none⟩ = some (.string V.val) := (HBX.out _ (Below.refl _ _) o1).2.1
  have e2 : (w.alloc o1).cell? ⟨p0, 2, none⟩ = some (.int .u64 (V.seq : Int)) := (HBX.out _ (Below.refl _ _) o1).2.2.1
  have e3 : (w.alloc o1).cell? ⟨p0, 3, none⟩ = some (.bool V.gone) := (HBX.out _ (Below.refl _ _) o1).2.2.2
  have hp1 : p0 < (w.alloc o1).drew.heap.size := by have := HP0.out; simp; omega
  go_wp2_with fail
  go_cut [] from 12 (fun wr => Hid (∃ v ao cap, v = .slice ao (r.length + 1) cap ∧ Mid cvS wr L A B r ⟨K.data.toList, V, H⟩ w.heap.size v 0 ∧ Turns (Own L (A ++ B)) w wr ∧ ∀ b, v.ownBlock = some b → L.vec.ownBlock = some b ∨ w.heap.size ≤ b))
  case first =>
    go_region_law (first
        | (go_simp; go_at_call 33; (with_reducible refine (HCL.out _).mono ?_); rintro e w2 ⟨rfl, hb2⟩
           have k2 : w2.cell? ⟨L.b, 0, none⟩ = some lv := (hb2.cell (p := ⟨L.b, 0, none⟩) hbl1).trans c0
           have kf2 : w2.frozen? ⟨L.b, 0, none⟩ = false := (hb2.frozen (p := ⟨L.b, 0, none⟩) hbl1).trans f0
           have hbl2 : L.b < w2.heap.size := Nat.lt_of_lt_of_le hbl1 hb2.size
           have g0 : w2.cell? ⟨p0, 0, none⟩ = some (.string V.key) := (hb2.cell (p := ⟨p0, 0, none⟩) hp1).trans e0
           have g1 : w2.cell? ⟨p0, 1, none⟩ = some (.string V.val) := (hb2.cell (p := ⟨p0, 1, none⟩) hp1).trans e1
           have g2 : w2.cell? ⟨p0, 2, none⟩ = some (.int .u64 (V.seq : Int)) := (hb2.cell (p := ⟨p0, 2, none⟩) hp1).trans e2
           have g3 : w2.cell? ⟨p0, 3, none⟩ = some (.bool V.gone) := (hb2.cell (p := ⟨p0, 3, none⟩) hp1).trans e3)
        | (refine step_append_lies _ (by rfl) _ _ _ (by rfl) 0 77 i0 _ 6 88 Try.underlying65 hi hz0 hz1 hz2 rfl (by omega) lv _ _ (by rfl) ((ownsRow_below hraw hb2).alloc _)
            ⟨w2.heap.size, 0, none⟩ 1 1 [.string K, .string V.key, .string V.val, .int .u64 (V.seq : Int), .bool V.gone, .slice (some ⟨w.heap.size, 0, none⟩) H H] (by rfl) (by rfl) (World.news_of_block (cs := #[.string K, .string V.key, .string V.val, .int .u64 (V.seq : Int), .bool V.gone, .slice (some ⟨w.heap.size, 0, none⟩) H H]) (t := 77) (fr := (0, 0)) (heap_alloc_new w2 _)) (by simp [Value.oneCell'])
            (by omega) (by have := HRL.out; unfold maxLen; omega) (by have := HRL.out; omega) (by omega) (w2.heap.size + 1) (by simp) ?_; intro gg cap' w3 hown3 hgrow hat hlt3
           have k3 : w3.cell? ⟨L.b, 0, none⟩ = some lv := (hgrow.cell_far ⟨L.b, 0, none⟩ (by simp; omega) (Ne.symm hvb)).trans (keep_alloc _ ⟨k2, kf2⟩).1
           have kf3 : w3.frozen? ⟨L.b, 0, none⟩ = false := (hgrow.frozen_far ⟨L.b, 0, none⟩ (by simp; omega) (Ne.symm hvb)).trans (keep_alloc _ ⟨k2, kf2⟩).2))

    all_goals
      go_wp2_with fail
      go_meet
      case rel =>
        have e1 := HO1.out
        subst e1
        rw [← HLV.out] at hgrow hat
        obtain ⟨h1, h2, h3⟩ := put_start HH.out K V H HF.out _ hb2 hgrow gg cap' hown3 hat
        exact Lib.hid ⟨_, _, _, rfl, h1, h2, fun b hb => by
          have : gg = b := by simpa [Value.ownBlock] using hb
          rw [← this]; exact h3⟩
  case rest =>
    clear c0 f0 hraw hvb hvec hbl1 e0 e1 e2 e3 hp1
    obtain ⟨v, ao, cap, hv, hm, ht, hob⟩ := hcut.out
    have HM := Lib.hid hm; have HT := Lib.hid ht; have HOB := Lib.hid hob; have HV := Lib.hid hv
    have hBp : Bp < w.heap.size := heap_lt HHP.out
    have hBo : ¬ Own L (A ++ B) Bp := fun ho => by
      obtain ⟨cs, t, e, ht⟩ := HH.out.own_type ho
      have := HHP.out.symm.trans e
      simp only [Option.some.injEq, Obj.cells.injEq] at this
      rw [← this.2.1] at ht
      revert ht
      decide
    have HBO := Lib.hid hBo
    clear hcut hm ht hob hv hBo
    go_wp2_with fail
    go_loopw [31] (fun i wr => ∃ j : Nat, j ≤ H ∧ i = .int .i64 (j : Int) ∧ Hid (Mid cvS wr L A B r ⟨K.data.toList, V, H⟩ w.heap.size v j) ∧ Hid (Turns (Own L (A ++ B)) w wr)) (fun i _ => H - (intOf i).toNat)
    case atStart => exact ⟨0, by omega, rfl, HM, HT⟩
    case round =>
      clear HM HT
      obtain ⟨j, hj, rfl, HM, HT⟩ := hrel
      by_cases hjH : j < H
      · have hbh := HT.out.block Bp hBp HBO.out
        have hb0 : wr.cell? ⟨Bp, j, none⟩ = some (.int .i64 (lastp (keys r) (shape (A ++ B)) K.data.toList j : Int)) := prow_cells (hbh.trans HHP.out) j (by omega)
        obtain ⟨g, off, n, cs, t, hc, hjn, hgT, hgc, hg, hcell, hnext⟩ := HM.out.place HF.out hjH
        dsimp only at hc
        have HC := Lib.hid hc; have HG := Lib.hid hg; have HN := Lib.hid hnext; have HGC := Lib.hid hgc
        have hown := HM.out.own
        dsimp only at hown
        have ho0 : ∃ u, wr.cell? ⟨w.heap.size, j, none⟩ = some u := by
          rw [cell_of hown]
          unfold ownT
          simp [hjH]
        obtain ⟨u0, hu0⟩ := ho0
        have hu1 := unfrozen_of hown j
        have hg1 := unfrozen_of hg (off + j)
        have hl0 : wr.cell? ⟨L.b, 0, none⟩ = some (.slice ao (r.length + 1) cap) := by rw [← HV.out, cell_of HM.out.box]; rfl
        have hTb : w.heap.size ≠ L.b := by have := HH.out.own_lt (Or.inl rfl); omega
        have hj1 : (j : Int) < H := by omega
        have hj2 : (j : Int) < n := by omega
        have HOW := Lib.hid hown
        generalize lastp (keys r) (shape (A ++ B)) K.data.toList j = pl at *
        generalize hnx : nxt (keys (r ++ [⟨K.data.toList, V, H⟩])) j (shape B) = nx at *
        have HNX := Lib.hid hnx
        clear hc hnext hg hbh hown hnx
        go_wp2_with fail
        refine HC.out.mono ?_
        rintro e w1 ⟨rfl, rfl⟩
        go_wp2_with fail
        have HS : Hid (∀ w' : World, w'.heap.size = w1.heap.size → w'.os = w1.os → w'.tape = w1.tape → w'.output = w1.output → w'.heap[w.heap.size]? = (w1.setCell ⟨w.heap.size, j, none⟩ (.int .i64 (nx : Int))).heap[w.heap.size]? → w'.heap[g]? = (w1.setCell ⟨g, off + j, none⟩ (.int .i64 ((r.length + 1 : Nat) : Int))).heap[g]? → (∀ b, b ≠ w.heap.size → b ≠ g → w'.heap[b]? = w1.heap[b]?) →
            Mid cvS w' L A B r ⟨K.data.toList, V, H⟩ w.heap.size v (j + 1) ∧ Turns (Own L (A ++ B)) w w') := Lib.hid (fun w' h1 h2 h3 h4 h5 h6 h7 => by
          refine ⟨HN.out w' ?_ ?_ h7, ?_⟩
          · rw [h5, heap_setCell_same w1 w.heap.size j _ _ _ HOW.out, ← HNX.out, ownT_set]
          · rw [h6, heap_setCell_same w1 g (off + j) _ _ _ HG.out]
          · refine HT.out.trans (Q := fun b => b = w.heap.size ∨ b = g) ⟨h2, h3, h4, by omega, fun k _ hk => h7 k (fun e => hk (Or.inl e)) (fun e => hk (Or.inr e))⟩ ?_
            rintro b (rfl | rfl)
            · exact Or.inr (Nat.le_refl _)
            · left
              rcases HGC.out with ⟨e, _⟩ | ⟨_, _, y, hy, e⟩
              · exact Or.inl e
              · exact Or.inr (Or.inr ⟨y, hy, e⟩))
        rcases hgc with ⟨e1, e2⟩ | ⟨hgb, e2, _⟩
        · subst e1 e2
          clear HOW HN HGC HBO HHP HH HHA HHB HF HM
          go_region
          go_wp2_with fail
          have hx := HS.out ((w1.setCell ⟨w.heap.size, j, none⟩ (.int .i64 (nx : Int))).setCell ⟨L.b, 1 + j, none⟩ (.int .i64 ((r.length : Int) + 1))).drew (by simp [World.setCell]) rfl rfl rfl
            (setCell_kept _ _ _ (Ne.symm hgT)) (by
              show ((w1.setCell ⟨w.heap.size, j, none⟩ (.int .i64 (nx : Int))).setCell ⟨L.b, 1 + j, none⟩ (.int .i64 ((r.length : Int) + 1))).heap[L.b]? = _
              rw [heap_setCell_same _ L.b (1 + j) _ _ _ HG.out, heap_setCell_same _ L.b (1 + j) _ _ _ ((setCell_kept w1 ⟨w.heap.size, j, none⟩ _ hgT).trans HG.out)]
              rfl)
            (fun b h1 h2 => (setCell_kept _ _ _ h2).trans (setCell_kept _ _ _ h1))
          exact ⟨⟨j + 1, by omega, by go_num, Lib.hid hx.1, Lib.hid hx.2⟩, by simp [intOf]; omega⟩
        · subst e2
          simp only [Nat.zero_add] at HS hcell hg1
          clear HOW HN HGC HBO HHP HH HHA HHB HF HM
          go_region
          go_wp2_with fail
          have hx := HS.out ((w1.setCell ⟨w.heap.size, j, none⟩ (.int .i64 (nx : Int))).setCell ⟨g, j, none⟩ (.int .i64 ((r.length : Int) + 1))).drew (by simp [World.setCell]) rfl rfl rfl
            (setCell_kept _ _ _ (Ne.symm hgT)) (by
              show ((w1.setCell ⟨w.heap.size, j, none⟩ (.int .i64 (nx : Int))).setCell ⟨g, j, none⟩ (.int .i64 ((r.length : Int) + 1))).heap[g]? = _
              rw [heap_setCell_same _ g (j) _ _ _ HG.out, heap_setCell_same _ g (j) _ _ _ ((setCell_kept w1 ⟨w.heap.size, j, none⟩ _ hgT).trans HG.out)]
              rfl)
            (fun b h1 h2 => (setCell_kept _ _ _ h2).trans (setCell_kept _ _ _ h1))
          exact ⟨⟨j + 1, by omega, by go_num, Lib.hid hx.1, Lib.hid hx.2⟩, by simp [intOf]; omega⟩
      · obtain rfl : j = H := by omega
        go_wp2_with fail
        go_end0
        have hl := HM.out.done HF.out
        refine ⟨rfl, _, ?_, hl, HT.out, fun b hb => ?_⟩
        · rfl
        · rcases hb with rfl | hb | ⟨y, hy, rfl⟩
          · exact Or.inl (Or.inl rfl)
          · rcases HOB.out b hb with h1 | h1
            · exact Or.inl (Or.inr (Or.inl h1))
            · exact Or.inr h1
          · show Own L (A ++ B) (loc' L K.data.toList w.heap.size y.key) ∨ w.heap.size ≤ loc' L K.data.toList w.heap.size y.key
            unfold loc'
            split
            · exact Or.inr (Nat.le_refl _)
            · rename_i hne
              refine Or.inl (Or.inr (Or.inr ⟨y, ?_, rfl⟩))
              simp only [List.mem_append, List.mem_cons] at hy ⊢
              rcases hy with h1 | rfl | h1
              · exact Or.inl h1
              · exact absurd rfl hne
              · exact Or.inr h1

end Go.Proofs.Ytmdnmabbphnhaaa.Sm
