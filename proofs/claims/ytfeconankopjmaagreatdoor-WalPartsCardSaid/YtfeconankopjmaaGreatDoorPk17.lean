/- Texts on the program's own functions, several in one: DkM. -/
import Derived.Test.YtfeconankopjmaaGreatDoorPk16
import Derived.Test.YtfeconankopjmaaGreatDoorPk14
import Derived.Deep.Cut
import Derived.Deep.CutRange
import Derived.Deep.QuietTactic
import Derived.Deep.AppendLies
import Derived.Deep.RegionHeld3

/- The walk of keepTails over a disk that lies in memory. -/
namespace Go.Proofs.YtfeconankopjmaaGreatDoor
open Go.RowKit Go.Maps
open Dk (Dir Chg Disk File Str)

/-- A slice of numbers that lies in memory. -/
def SeesI (w : World) (v : Value) (ks : List Int) : Prop :=
  (ks = [] ∧ ∃ a cap, v = .slice a 0 cap) ∨ ∃ b off cap, v = .slice (some ⟨b, off, none⟩) ks.length cap ∧ b < w.heap.size ∧ ∀ i x, ks[i]? = some x → w.cell? ⟨b, off + i, none⟩ = some (.int .i64 x)
/-- A slice of spots that lies in memory. -/
def SeesQ (w : World) (v : Value) (sp : List (Int × Nat)) : Prop :=
  (sp = [] ∧ ∃ a cap, v = .slice a 0 cap) ∨ ∃ b off cap, v = .slice (some ⟨b, off, none⟩) sp.length cap ∧ b < w.heap.size ∧ ∀ i q, sp[i]? = some q → w.cell? ⟨b, off + i * 2, none⟩ = some (.int .i64 q.1) ∧ w.cell? ⟨b, off + i * 2 + 1, none⟩ = some (.int .u32 (q.2 : Int))
theorem SeesI.turned {w w' : World} {P : Nat → Prop} {v : Value} {ks : List Int} (h : SeesI w v ks) (ht : Turns P w w') (hp0 : ks ≠ [] → ∀ b, v.ownBlock = some b → ¬ P b) : SeesI w' v ks := by
  rcases h with h | ⟨b, off, cap, rfl, hb, hc⟩
  · exact Or.inl h
  · by_cases h0 : ks = []
    · subst h0; exact Or.inl ⟨rfl, _, _, rfl⟩
    have hp := hp0 h0
    exact Or.inr ⟨b, off, cap, rfl, Nat.lt_of_lt_of_le hb ht.size, fun i x hi => cell_kept (hc i x hi) (ht.block b hb (hp b rfl))⟩
theorem SeesQ.turned {w w' : World} {P : Nat → Prop} {v : Value} {sp : List (Int × Nat)} (h : SeesQ w v sp) (ht : Turns P w w') (hp0 : sp ≠ [] → ∀ b, v.ownBlock = some b → ¬ P b) : SeesQ w' v sp := by
  rcases h with h | ⟨b, off, cap, rfl, hb, hc⟩
  · exact Or.inl h
  · by_cases h0 : sp = []
    · subst h0; exact Or.inl ⟨rfl, _, _, rfl⟩
    have hp := hp0 h0
    exact Or.inr ⟨b, off, cap, rfl, Nat.lt_of_lt_of_le hb ht.size, fun i x hi => ⟨cell_kept (hc i x hi).1 (ht.block b hb (hp b rfl)), cell_kept (hc i x hi).2 (ht.block b hb (hp b rfl))⟩⟩
theorem SeesI.shape {w : World} {v : Value} {ks : List Int} (h : SeesI w v ks) : ∃ a cap, v = .slice a ks.length cap := by
  rcases h with ⟨rfl, a, cap, rfl⟩ | ⟨b, off, cap, rfl, _⟩ <;> exact ⟨_, _, rfl⟩
theorem SeesQ.shape {w : World} {v : Value} {sp : List (Int × Nat)} (h : SeesQ w v sp) : ∃ a cap, v = .slice a sp.length cap := by
  rcases h with ⟨rfl, a, cap, rfl⟩ | ⟨b, off, cap, rfl, _⟩ <;> exact ⟨_, _, rfl⟩

theorem before_irrefl (s : Str) : bytesBefore s s = false := WideAt.bytes_irrefl s
/-- Each name of a rising directory leads to its file. -/
theorem look_at : ∀ {d : Dir}, d.Pairwise (fun p q => bytesBefore p.1 q.1 = true) → ∀ {i : Nat} {p : Str × Nat}, d[i]? = some p → Dk.look p.1 d = some p.2
  | [], _, i, p, h => by simp at h
  | x :: r, hp, 0, p, h => by
    simp only [List.getElem?_cons_zero, Option.some.injEq] at h
    subst h
    simp [Dk.look]
  | x :: r, hp, i + 1, p, h => by
    rw [List.getElem?_cons_succ] at h
    rw [List.pairwise_cons] at hp
    have ih := look_at hp.2 h
    have hx := hp.1 p (List.mem_of_getElem? h)
    have hne : (x.1 == p.1) = false := by
      rw [beq_eq_false_iff_ne]
      intro e
      rw [e, before_irrefl] at hx
      cases hx
    unfold Dk.look at ih ⊢
    rw [List.find?_cons, hne]
    exact ih

/-- What a crash keeps of a tail. -/
def keptOf (f : File) (ks : List Int) (k : Nat) : Nat := match ks[k]? with
  | some x => (Dk.held x ((f.data.length : Int) - f.lasts)).toNat
  | none => 0
theorem kept_le (f : File) (h : f.lasts ≤ f.data.length) (ks : List Int) (k : Nat) : keptOf f ks k ≤ f.data.length - f.lasts := by
  unfold keptOf
  split
  · unfold Dk.held; omega
  · omega

/-- The same place, other slices of the same rows. -/
structure Alike (L L' : Lay) : Prop where
  d : L'.d = L.d
  bn : L'.bn = L.bn
  bl : L'.bl = L.bl
  vec : L'.vec = L.vec
  loc : L'.loc = L.loc
  live : L'.live = L.live
  dat : ∀ i, (L'.dat i).ownBlock = (L.dat i).ownBlock
theorem Alike.refl (L : Lay) : Alike L L := ⟨rfl, rfl, rfl, rfl, rfl, rfl, fun _ => rfl⟩
theorem Alike.own {L L' : Lay} (h : Alike L L') (b : Nat) : Own L' b ↔ Own L b := by
  unfold Own
  rw [h.d, h.bn, h.bl, h.vec, h.loc, h.live]
  simp only [h.dat]

theorem tails_step (ks : List Int) (sp : List (Int × Nat)) {d : Dir} {i : Nat} {q : Str × Nat} (hq : d[i]? = some q) (k : Nat) (G : Nat → File) :
    Dk.tails ks sp (d.drop i) k G = if (G q.2).lasts = (G q.2).data.length then Dk.tails ks sp (d.drop (i + 1)) k G else Dk.tails ks sp (d.drop (i + 1)) (k + 1) (Dk.upd G q.2 (Dk.left (G q.2) ks sp k)) := by
  have hi : i < d.length := by
    rcases Nat.lt_or_ge i d.length with h1 | h1
    · exact h1
    · rw [List.getElem?_eq_none h1] at hq; cases hq
  have e : d[i] = q := by rw [List.getElem?_eq_getElem hi] at hq; simpa using hq
  rw [List.drop_eq_getElem_cons hi, e]
  rfl

/-- Nothing has turned but the count of draws. -/
structure Still (w w' : World) : Prop where
  heap : w'.heap = w.heap
  os : w'.os = w.os
  tape : w'.tape = w.tape
  output : w'.output = w.output
theorem Still.holds {w w' : World} {L : Lay} {S : Disk} (h : Still w w') (hh : Holds w L S) : Holds w' L S := hh.frame fun _ _ => by rw [h.heap]
theorem Still.turns {w w' : World} (h : Still w w') : Turns (fun _ => False) w w' := ⟨h.os, h.tape, h.output, by rw [h.heap]; exact Nat.le_refl _, fun _ _ _ => by rw [h.heap]⟩
theorem Still.cell {w w' : World} (h : Still w w') {a : Addr} {v : Value} (hc : w.cell? a = some v) : w'.cell? a = some v := cell_kept hc (by rw [h.heap])
theorem Still.trans {a b c : World} (h : Still a b) (k : Still b c) : Still a c := ⟨k.heap.trans h.heap, k.os.trans h.os, k.tape.trans h.tape, k.output.trans h.output⟩
theorem still_drewN (w : World) (n : Nat) : Still w (w.drewN n) := ⟨rfl, rfl, rfl, rfl⟩
theorem still_drew (w : World) : Still w w.drew := ⟨rfl, rfl, rfl, rfl⟩
theorem row_cap {w : World} {base : Nat} {e : TypeId} {z n c : Nat} {a : Option Addr} {xs : List Value} (h : w.ownsRow base e z (.slice a n c) n xs) : n ≤ c := by
  rcases h.2 with ⟨h1, rfl⟩ | ⟨g, cap, cur, h1, _, _, h2, _⟩
  · omega
  · simp only [Value.slice.injEq] at h1; omega

theorem row_max {w : World} {base : Nat} {e : TypeId} {z n c : Nat} {a : Option Addr} {xs : List Value} (h : w.ownsRow base e z (.slice a n c) n xs) : c ≤ maxLen := by
  rcases h.2 with ⟨h1, rfl⟩ | ⟨g, cap, cur, h1, _, _, _, h2, _⟩
  · simp only [Value.slice.injEq] at h1; unfold maxLen; omega
  · simp only [Value.slice.injEq] at h1; omega

theorem row_take {w : World} {g c : Nat} {l : Str} (h : w.ownsRow 0 5 1 (.slice (some ⟨g, 0, none⟩) l.length c) l.length (Lib.byteCells l)) (m : Nat) (hm : m ≤ l.length) :
    w.ownsRow 0 5 1 (.slice (some ⟨g, 0, none⟩) m c) (l.take m).length (Lib.byteCells (l.take m)) := by
  have hlen : (l.take m).length = m := by rw [List.length_take]; omega
  rcases h.2 with ⟨h1, _⟩ | ⟨g', c', cur, h1, h2, h3, h4, h5, h6, h7⟩
  · simp at h1
  · simp only [Value.slice.injEq, Option.some.injEq, Addr.mk.injEq, true_and, and_true] at h1
    obtain ⟨rfl, rfl⟩ := h1
    rw [hlen]
    refine ⟨by simp [Lib.byteCells]; omega, Or.inr ⟨_, _, cur, rfl, h2, h3, by omega, h5, h6, ?_⟩⟩
    have := congrArg (List.take m) h7
    rw [List.take_take, Nat.mul_one, Nat.min_eq_left hm] at this
    rw [Nat.mul_one, this]
    simp [Lib.byteCells, List.map_take]
theorem lie_of {w : World} {g c : Nat} {l : Str} (h : w.ownsRow 0 5 1 (.slice (some ⟨g, 0, none⟩) l.length c) l.length (Lib.byteCells l)) (off : Nat) (ho : off ≤ l.length) :
    ∃ cur, w.heap[g]? = some (.cells cur 5 (0, 0)) ∧ Lie w g off (l.drop off) cur := by
  rcases h.2 with ⟨h1, _⟩ | ⟨g', c', cur, h1, h2, h3, h4, h5, h6, h7⟩
  · simp at h1
  · simp only [Value.slice.injEq, Option.some.injEq, Addr.mk.injEq, true_and, and_true] at h1
    obtain ⟨rfl, rfl⟩ := h1
    refine ⟨cur, h3, h3, by rw [List.length_drop]; omega, fun j u hj => ?_⟩
    rw [List.getElem?_drop] at hj
    have h8 : (Lib.byteCells l)[off + j]? = some (.int .u8 (u.toNat : Int)) := by simp [Lib.byteCells, hj]
    have hlt : off + j < l.length := by
      rcases Nat.lt_or_ge (off + j) l.length with h9 | h9
      · exact h9
      · rw [List.getElem?_eq_none h9] at hj; cases hj
    rw [← h7, Nat.mul_one, List.getElem?_take_of_lt hlt, Array.getElem?_toList] at h8
    exact h8
theorem row_turned {w w' : World} {g c off : Nat} {l t' : Str} {cur cur' : Array Value} (h : w.ownsRow 0 5 1 (.slice (some ⟨g, 0, none⟩) l.length c) l.length (Lib.byteCells l)) (ho : off ≤ l.length)
    (hg : w.heap[g]? = some (.cells cur 5 (0, 0))) (ht : t'.length = l.length - off) (hl : Lie w' g off t' cur') (hs : cur'.size = cur.size) (hout : ∀ i, (i < off ∨ l.length ≤ i) → cur'[i]? = cur[i]?) :
    w'.ownsRow 0 5 1 (.slice (some ⟨g, 0, none⟩) l.length c) l.length (Lib.byteCells (l.take off ++ t')) := by
  rcases h.2 with ⟨h1, _⟩ | ⟨g', c', cur2, h1, h2, h3, h4, h5, h6, h7⟩
  · simp at h1
  · simp only [Value.slice.injEq, Option.some.injEq, Addr.mk.injEq, true_and, and_true] at h1
    obtain ⟨rfl, rfl⟩ := h1
    rw [hg] at h3
    simp only [Option.some.injEq, Obj.cells.injEq, and_true] at h3
    subst h3
    have hlen : (l.take off ++ t').length = l.length := by rw [List.length_append, List.length_take, ht]; omega
    refine ⟨by rw [Lib.byteCells_length, hlen, Nat.mul_one], Or.inr ⟨_, _, cur', rfl, h2, hl.1, h4, h5, by rw [hs]; exact h6, ?_⟩⟩
    apply List.ext_getElem?
    intro j
    rw [Nat.mul_one]
    rcases Nat.lt_or_ge j l.length with h8 | h8
    · rw [List.getElem?_take_of_lt h8, Array.getElem?_toList]
      rcases Nat.lt_or_ge j off with h9 | h9
      · rw [hout j (Or.inl h9)]
        have h10 := congrArg (fun z => z[j]?) h7
        simp only [Nat.mul_one] at h10
        rw [List.getElem?_take_of_lt h8, Array.getElem?_toList] at h10
        rw [h10]
        simp only [Lib.byteCells, List.getElem?_map]
        rw [List.getElem?_append_left (by rw [List.length_take]; omega), List.getElem?_take_of_lt h9]
      · obtain ⟨u, hu⟩ : ∃ u, t'[j - off]? = some u := ⟨_, List.getElem?_eq_getElem (by omega)⟩
        have := hl.2.2 (j - off) u hu
        rw [show off + (j - off) = j by omega] at this
        rw [this]
        simp only [Lib.byteCells, List.getElem?_map]
        rw [List.getElem?_append_right (by rw [List.length_take]; omega), List.length_take, Nat.min_eq_left ho, hu]
        rfl
    · rw [List.getElem?_eq_none (by rw [List.length_take]; omega), List.getElem?_eq_none (by rw [Lib.byteCells_length, hlen]; exact h8)]
/-- A file's bytes are turned in their own row. -/
theorem Holds.setBytes {w w' : World} {L : Lay} {S : Disk} (h : Holds w L S) (i g : Nat) (hi : L.live i) (hv : (L.dat i).ownBlock = some g) (ht : Turns (fun b => b = g) w w') (l : Str) (hrow : w'.ownsRow 0 5 1 (L.dat i) l.length (Lib.byteCells l)) (hle : (S.file i).lasts ≤ l.length) :
    Holds w' L (S.setFile i ⟨l, (S.file i).lasts⟩) := by
  have A := h.lone
  have B := A.dat i hi g hv
  have kept : ∀ b, b < w.heap.size → b ≠ g → w'.heap[b]? = w.heap[b]? := fun b hb hne => ht.block b hb hne
  refine ⟨(kept _ (heap_lt h.box) B.1.symm).trans h.box, ownsMap_frame h.now (kept _ h.now.lt B.2.1.symm), ownsMap_frame h.old (kept _ h.old.lt B.2.2.1.symm), h.two, ownsRow_frame h.chg fun b hb => kept b (ownsRow_lt h.chg hb) (B.2.2.2.1 b hb), fun k hk => ?_, h.apart, h.inNow, h.inOld, h.inChg, h.lt⟩
  have hf := h.file k hk
  have hbox := (kept _ (heap_lt hf.box) (B.2.2.2.2 k hk)).trans hf.box
  by_cases e : k = i
  · subst e
    unfold Disk.setFile
    dsimp only
    rw [Dk.upd_same]
    exact ⟨hbox, hrow, hle⟩
  · unfold Disk.setFile
    dsimp only
    rw [Dk.upd_other e]
    exact hf.frame (kept _ (heap_lt hf.box) (B.2.2.2.2 k hk)) fun b hb => kept b (ownsRow_lt hf.row hb) (fun e2 => (h.apart k i hk hi e).2 b hb (by rw [e2]; exact hv))
theorem left_eq (f : File) (ks : List Int) (sp : List (Int × Nat)) (k : Nat) :
    Dk.left f ks sp k = ⟨f.data.take f.lasts ++ (if keptOf f ks k = 0 then (f.data.drop f.lasts).take (keptOf f ks k) else match sp[k]? with
      | some q => Dk.turn ((f.data.drop f.lasts).take (keptOf f ks k)) q.1 q.2
      | none => (f.data.drop f.lasts).take (keptOf f ks k)), f.lasts + keptOf f ks k⟩ := rfl
theorem take_plus (l : Str) (a n : Nat) : l.take a ++ (l.drop a).take n = l.take (a + n) := by rw [List.take_add]

theorem slice_tail (g a n c : Nat) (h : a < c) (W : World) : (Instr.slice 128 (.slice (some ⟨g, 0, none⟩) (a + n) c) (some (.int .i64 (a : Int))) none none).run Tryz.prog W = .ok (.slice (some ⟨g, a, none⟩) n (c - a)) W := by
  rw [run_slice_l W 128 (some ⟨g, 0, none⟩) (a + n) c (by kernel_rfl) .i64 (a : Int) (by omega) (by omega)]
  have hs : (sizeOf (Tryz.prog.elem 128)).run Tryz.prog W = .ok 1 W := by kernel_rfl
  rw [hs]
  simp only [Result.andThen, sliced, Int.toNat_natCast, Nat.mul_one, Nat.add_sub_cancel_left]
  rw [if_neg (by omega)]
  simp [Addr.add]
  exact fun e => e.symm
theorem turn_length (t : Str) (x : Int) (m : Nat) : (Dk.turn t x m).length = t.length := by
  unfold Dk.turn
  rw [List.length_mapIdx]
theorem spot_keep {w' w'' : World} {fb sb gd o : Nat} {x y z v : Value} (h : w'.cell? ⟨fb, 0, none⟩ = some x ∧ w'.cell? ⟨fb, 1, none⟩ = some y ∧ w'.cell? ⟨sb, o, none⟩ = some z ∧ w'.cell? ⟨sb, o + 1, none⟩ = some v ∧ fb < w'.heap.size ∧ sb < w'.heap.size)
    (hf : fb ≠ gd) (hs : sb ≠ gd) (ht : Turns (fun k => k = gd) w' w'') : w''.cell? ⟨fb, 0, none⟩ = some x ∧ w''.cell? ⟨fb, 1, none⟩ = some y ∧ w''.cell? ⟨sb, o, none⟩ = some z ∧ w''.cell? ⟨sb, o + 1, none⟩ = some v ∧ fb < w''.heap.size ∧ sb < w''.heap.size := by
  obtain ⟨h0, h1, h2, h3, h4, h5⟩ := h
  exact ⟨cell_kept h0 (ht.block fb h4 hf), cell_kept h1 (ht.block fb h4 hf), cell_kept h2 (ht.block sb h5 hs), cell_kept h3 (ht.block sb h5 hs), Nat.lt_of_lt_of_le h4 ht.size, Nat.lt_of_lt_of_le h5 ht.size⟩
theorem tails_end {w1 w3 : World} {L L3 : Lay} {S : Disk} {G : Nat → File} {d : Dir} {i j k m fb : Nat} {f : File} {D : Str} {ks : List Int} {sp : List (Int × Nat)} {T : Nat → File} {z : Int}
    (hh : Holds w3 L3 { S with file := Dk.upd G j ⟨D, m⟩ }) (hl : L3.live j) (hloc : L3.loc j = fb) (ha : Alike L L3) (ht : Turns (Own L) w1 w3) (hD : Dk.left f ks sp k = ⟨D, D.length⟩) (hG : ∀ x, (G x).data.length ≤ 1099511627776)
    (hT : Dk.tails ks sp (d.drop i) k G = Dk.tails ks sp (d.drop (i + 1)) (k + 1) (Dk.upd G j (Dk.left f ks sp k))) (hA : Dk.tails ks sp (d.drop i) k G = T) (hz : (D.length : Int) = z) (hDl : D.length ≤ 1099511627776) :
    Dk.tails ks sp (d.drop (i + 1)) (k + 1) (Dk.upd G j ⟨D, D.length⟩) = T ∧ Alike L L3 ∧ Holds (w3.setCell ⟨fb, 1, none⟩ (.int .i64 z)) L3 { S with file := Dk.upd G j ⟨D, D.length⟩ } ∧ Turns (Own L) w1 (w3.setCell ⟨fb, 1, none⟩ (.int .i64 z)) ∧ ∀ x, (Dk.upd G j ⟨D, D.length⟩ x).data.length ≤ 1099511627776 := by
  refine ⟨by rw [← hD, ← hT]; exact hA, ha, ?_, ht.trans (Turns.of_setCell (P := Own L) w3 ⟨fb, 1, none⟩ _ (Or.inr (Or.inr (Or.inr (Or.inr ⟨j, by rw [← ha.live]; exact hl, Or.inl (by rw [← ha.loc]; exact hloc.symm)⟩))))) (fun _ h => Or.inl h), fun x => ?_⟩
  · have hs := hh.setLasts j D.length hl (by dsimp only; rw [Dk.upd_same]; exact Nat.le_refl _)
    unfold Disk.setFile at hs
    dsimp only at hs
    rw [Dk.upd_same, hloc, hz] at hs
    have e : Dk.upd (Dk.upd G j ⟨D, m⟩) j ⟨D, D.length⟩ = Dk.upd G j ⟨D, D.length⟩ := by
      funext x
      unfold Dk.upd
      split <;> rfl
    rw [e] at hs
    exact hs
  · unfold Dk.upd
    split
    · exact hDl
    · exact hG x

set_option maxHeartbeats 8000000 in
set_option maxRecDepth 100000 in
theorem keepTails_any {L : Lay} {S : Disk} (w : World) (h : Holds w L S) (F : Fits S) (vk vs : Value) (ks : List Int) (sp : List (Int × Nat)) (hk : SeesI w vk ks) (hs : SeesQ w vs sp)
    (hko : ks ≠ [] → ∀ b, vk.ownBlock = some b → ¬ Own L b) (hso : sp ≠ [] → ∀ b, vs.ownBlock = some b → ¬ Own L b) (hkl : ks.length ≤ 1099511627776) (hsl : sp.length ≤ 1099511627776) (hsm : ∀ q ∈ sp, q.2 ≤ 4294967295) :
    Calls Tryz.prog 72 #[.pointer (some ⟨L.d, 0, none⟩), vk, vs] w fun e w' => e = .returned (.tuple #[]) ∧ ∃ L', Alike L L' ∧ Holds w' L' { S with file := Dk.tails ks sp S.now 0 S.file } ∧ Turns (Own L) w w' := by
  have c4 := h.cells.2.2.2.2.1
  have HRN := Lib.hid (rising_any h.now F.now)
  have HRI := Lib.hid (rising h.now)
  have HF := Lib.hid F; clear F
  have HH := Lib.hid h; clear h
  have HSM := Lib.hid hsm; clear hsm
  have HKO := Lib.hid hko; have HSO := Lib.hid hso; clear hko hso
  obtain ⟨ka, kc, hks⟩ := hk.shape
  obtain ⟨sa, sc, hss⟩ := hs.shape
  have HKS := Lib.hid hk; have HSS := Lib.hid hs; clear hk hs
  have hkli : (ks.length : Int) ≤ 1099511627776 := by omega
  have hsli : (sp.length : Int) ≤ 1099511627776 := by omega
  have hnl : (S.now.length : Int) ≤ 1099511627776 := by have := HF.out.now; omega
  have HVK := Lib.hid hks; have HVS := Lib.hid hss
  subst hks hss
  go_enter Tryz.func72, Tryz.ntmps72
  go_wp2_with fail
  refine HRN.out.mono ?_
  rintro e w1 ⟨v, rfl, hrow, hb1⟩
  obtain ⟨na, nc, hv⟩ := row_shape hrow
  subst hv
  have HROW := Lib.hid hrow
  have HB1 := Lib.hid hb1
  have HH1 : Hid (Holds w1 L S) := Lib.hid (HH.out.below hb1)
  have HSS1 := Lib.hid (HSS.out.turned (P := Own L) (Turns.of_below hb1) HSO.out)
  clear hrow hb1 HRN c4
  go_wp2_with fail
  go_loopw [17, 6] (fun z kz wr => ∃ (i k : Nat) (G : Nat → File) (L' : Lay), i ≤ S.now.length ∧ z = .int .i64 (i : Int) ∧ kz = .int .i64 (k : Int) ∧ k ≤ i ∧ Hid (Dk.tails ks sp (S.now.drop i) k G = Dk.tails ks sp S.now 0 S.file ∧ Alike L L' ∧ Holds wr L' { S with file := G } ∧ Turns (Own L) w1 wr ∧ ∀ j, (G j).data.length ≤ 1099511627776)) (fun z _ _ => S.now.length - (intOf z).toNat)
  case atStart => exact ⟨0, 0, S.file, L, by omega, rfl, rfl, by omega, Lib.hid ⟨rfl, Alike.refl L, HH1.out, Turns.refl _ _, HF.out.dat⟩⟩
  case round =>
    obtain ⟨i, k, G, L', hi, rfl, rfl, hki, HK⟩ := hrel
    by_cases hlt : i < S.now.length
    · have hlt2 : (i : Int) < S.now.length := by omega
      obtain ⟨q, hq⟩ : ∃ q, S.now[i]? = some q := ⟨_, List.getElem?_eq_getElem hlt⟩
      have HTS := Lib.hid (tails_step ks sp hq k G)
      obtain ⟨r, rc, hrv, hrb, hrl⟩ := HROW.out.form (by omega)
      obtain rfl : na = some ⟨r, 0, none⟩ := by simp only [Value.slice.injEq] at hrv; exact hrv.1
      have hnr : ¬ Own L r := fun ho => by have := HH.out.own_lt ho; omega
      have n0 : wr.cell? ⟨r, i, none⟩ = some (.string ⟨q.1.toArray⟩) := by
        have e : (⟨r, 0, none⟩ : Addr).add i = ⟨r, i, none⟩ := by unfold Addr.add; split <;> simp_all
        have := HROW.out.cells (g := r) rfl i (.string ⟨q.1.toArray⟩) (by rw [List.getElem?_map, hq]; rfl)
        rw [e] at this
        exact cell_kept this (HK.out.2.2.2.1.block r hrl hnr)
      have hql : L'.live q.2 := HK.out.2.2.1.inNow q (List.mem_of_getElem? hq)
      have hqm := List.mem_of_getElem? hq
      have hlk := look_run HK.out.2.2.1.now ⟨q.1.toArray⟩ (by
        have := strKeys_le HK.out.2.2.1.now Tryz.underlying9 q.1 (by rw [toD_keys]; exact List.mem_map.2 ⟨q, hqm, rfl⟩)
        exact this)
      have hla : Dk.look q.1 S.now = some q.2 := look_at HRI.out hq
      dsimp only at hlk
      rw [hla] at hlk
      unfold fileV at hlk
      have c4 := HK.out.2.2.1.cells.2.2.2.2.1
      rw [HK.out.2.1.d] at c4
      obtain ⟨fb, hfb⟩ : ∃ fb, fb = L'.loc q.2 := ⟨_, rfl⟩
      have hfa := HK.out.2.2.1.file q.2 hql
      obtain ⟨da, dc, hsh⟩ := row_shape hfa.row
      dsimp only at hlk hfa hsh
      rw [← hfb] at hlk hfa
      obtain ⟨f, hf⟩ : ∃ f, f = G q.2 := ⟨_, rfl⟩
      rw [← hf] at hfa hsh HTS
      have e0 : wr.cell? ⟨fb, 0, none⟩ = some (.slice da f.data.length dc) := by rw [cell_of hfa.box, hsh]; rfl
      have e1 : wr.cell? ⟨fb, 1, none⟩ = some (.int .i64 (f.lasts : Int)) := by rw [cell_of hfa.box]; rfl
      have g0 := unfrozen_of hfa.box 0
      have g1 := unfrozen_of hfa.box 1
      have hle := hfa.le
      have hdl : f.data.length ≤ 1099511627776 := by rw [hf]; exact HK.out.2.2.2.2 q.2
      have hdi : (f.data.length : Int) ≤ 1099511627776 := by omega
      have hli : (f.lasts : Int) ≤ f.data.length := by omega
      have HFA := Lib.hid hfa; have HSH := Lib.hid hsh; have HFB := Lib.hid hfb; have HFF := Lib.hid hf; have HQ := Lib.hid hq
      have HQL := Lib.hid hql
      clear hfa hsh hfb hf hq hql hla hqm hrv hrb hrl hnr
      by_cases heq : f.lasts = f.data.length
      · have HT2 : Hid (Dk.tails ks sp (S.now.drop i) k G = Dk.tails ks sp (S.now.drop (i + 1)) k G) := by have := HTS.out; rw [if_pos heq] at this; exact Lib.hid this
        rw [heq] at e1
        clear HTS
        go_wp2_with fail
        go_quiet (fail)
        go_wp2_with fail
        go_roundw
        case rel => exact ⟨i + 1, k, G, L', by omega, by go_num, rfl, by omega, Lib.hid ⟨HT2.out.symm.trans HK.out.1, HK.out.2.1, (still_drewN wr _).holds HK.out.2.2.1, HK.out.2.2.2.1.trans (still_drewN wr _).turns (fun _ h => h.elim), HK.out.2.2.2.2⟩⟩
        case measure => simp [intOf]; omega
      · have HT2 : Hid (Dk.tails ks sp (S.now.drop i) k G = Dk.tails ks sp (S.now.drop (i + 1)) (k + 1) (Dk.upd G q.2 (Dk.left f ks sp k))) := by have := HTS.out; rw [if_neg heq] at this; exact Lib.hid this
        have hbq : ((f.lasts : Int) == (f.data.length : Int)) = false := by rw [beq_eq_false_iff_ne]; omega
        obtain ⟨gd, dc', hd1, _, hd2⟩ := HFA.out.row.form (by omega)
        rw [HSH.out] at hd1
        obtain rfl : da = some ⟨gd, 0, none⟩ := by simp only [Value.slice.injEq] at hd1; exact hd1.1
        have hdc : f.data.length ≤ dc := row_cap (by rw [← HSH.out]; exact HFA.out.row)
        obtain ⟨n, hn⟩ : ∃ n, n = keptOf f ks k := ⟨_, rfl⟩
        have hnle : n ≤ f.data.length - f.lasts := by rw [hn]; exact kept_le f hle ks k
        have hkw := HKS.out.turned ((Turns.of_below (P := Own L) HB1.out).trans HK.out.2.2.2.1 (fun _ h => Or.inl h)) HKO.out
        have hsw := HSS.out.turned ((Turns.of_below (P := Own L) HB1.out).trans HK.out.2.2.2.1 (fun _ h => Or.inl h)) HSO.out
        have HKW := Lib.hid hkw; have HSW := Lib.hid hsw; have HNN := Lib.hid hn
        clear HTS heq hd1 hd2 hkw hsw hn
        go_wp2_with fail
        go_quiet (fail)
        go_upto_if 40 with (fail)
        go_cut [10] from 18 to 102 (fun s10 wr2 => s10 = .int .i64 (n : Int) ∧ Hid (Still wr wr2))
        case first =>
          cases hks : ks[k]? with
          | none =>
            have hkl2 : (ks.length : Int) ≤ k := by have := List.getElem?_eq_none_iff.1 hks; omega
            have HN0 : Hid (n = 0) := by rw [HNN.out]; unfold keptOf; rw [hks]; exact Lib.hid rfl
            clear hks
            go_wp2_with fail
            go_meet
            case rel => exact ⟨by rw [HN0.out]; rfl, Lib.hid (still_drewN wr _)⟩
          | some x =>
            have hkl1 : k < ks.length := by
              rcases Nat.lt_or_ge k ks.length with h1 | h1
              · exact h1
              · rw [List.getElem?_eq_none h1] at hks; cases hks
            have hkl2 : (k : Int) < ks.length := by omega
            have HNX : Hid ((n : Int) = Dk.held x ((f.data.length : Int) - f.lasts)) := by
              rw [HNN.out]; unfold keptOf; rw [hks]
              have : 0 ≤ Dk.held x ((f.data.length : Int) - f.lasts) := by unfold Dk.held; omega
              dsimp only
              exact Lib.hid (Int.toNat_of_nonneg this)
            obtain ⟨kb, koff, hka, kv⟩ : ∃ kb koff, ka = some ⟨kb, koff, none⟩ ∧ wr.cell? ⟨kb, koff + k, none⟩ = some (.int .i64 x) := by
              rcases HKW.out with ⟨h1, _⟩ | ⟨b, off, cap, h1, _, h2⟩
              · rw [h1] at hks; simp at hks
              · simp only [Value.slice.injEq] at h1
                exact ⟨b, off, h1.1, h2 k x hks⟩
            subst hka
            clear hks
            go_wp2_with fail
            go_quiet (first | (go_at_call 37; refine (held_any _ _ _).mono ?_; rintro e wz ⟨rfl, rfl⟩; exact ⟨rfl, _, rfl⟩))
            go_wp2_with fail
            go_meet
            case rel => exact ⟨by rw [HNX.out], Lib.hid ((still_drewN wr _).trans (still_drewN _ _))⟩
        case rest =>
          obtain ⟨rfl, HST⟩ := hcut
          have d0 := HST.out.cell e0
          have d1 := HST.out.cell e1
          have hhc := HST.out.holds HK.out.2.2.1
          have htc := HK.out.2.2.2.1.trans HST.out.turns (fun _ h => h.elim)
          have gg0 : wc.frozen? ⟨fb, 0, none⟩ = false := (World.frozen?_of_block (a := ⟨fb, 0, none⟩) (by rw [HST.out.heap])).trans g0
          have gg1 : wc.frozen? ⟨fb, 1, none⟩ = false := (World.frozen?_of_block (a := ⟨fb, 1, none⟩) (by rw [HST.out.heap])).trans g1
          have hni : (n : Int) ≤ f.data.length - f.lasts := by omega
          have hdci : (f.data.length : Int) ≤ dc := by omega
          have hc5 : (dc : Int) ≤ 9223372036854775807 := by have := row_max (by rw [← HSH.out]; exact HFA.out.row); unfold maxLen at this; omega
          have HKW2 := Lib.hid (HSW.out.turned (P := fun _ => False) HST.out.turns (fun _ _ _ h => h))
          have HC := Lib.hid hhc; have HTC := Lib.hid htc
          clear e0 e1 g0 g1 c4 n0 hlk hhc htc hbq HKS HSS HKW HSW
          go_wp2_with fail
          go_region
          have HLE2 : Hid (f.lasts + n ≤ f.data.length) := Lib.hid (by omega)
          have H9 : Hid (∃ L9, Alike L L9 ∧ L9.dat q.2 = .slice (some ⟨gd, 0, none⟩) (f.lasts + n) dc ∧ Holds (wc.setCell ⟨fb, 0, none⟩ (.slice (some ⟨gd, 0, none⟩) (f.lasts + n) dc)).drew L9 { S with file := Dk.upd G q.2 ⟨f.data.take (f.lasts + n), f.lasts⟩ } ∧ Turns (Own L) w1 (wc.setCell ⟨fb, 0, none⟩ (.slice (some ⟨gd, 0, none⟩) (f.lasts + n) dc)).drew) := by
            have hfc := HC.out.file q.2 HQL.out
            have hr := row_take (m := f.lasts + n) (by rw [← HSH.out]; have := hfc.row; dsimp only at this; rw [← HFF.out] at this; exact this) HLE2.out
            have hs := HC.out.setData (w1 := wc) q.2 HQL.out (.slice (some ⟨gd, 0, none⟩) (f.lasts + n) dc) (f.data.take (f.lasts + n)) ⟨rfl, rfl, rfl, Nat.le_refl _, fun _ _ _ => rfl⟩ hr (by dsimp only; rw [← HFF.out, List.length_take]; omega)
              (fun b hb => Or.inl (by rw [HSH.out]; exact hb))
            dsimp only at hs
            rw [← HFF.out, ← HFB.out] at hs
            refine Lib.hid ⟨{ L' with dat := fun k => if k = q.2 then .slice (some ⟨gd, 0, none⟩) (f.lasts + n) dc else L'.dat k }, ⟨HK.out.2.1.d, HK.out.2.1.bn, HK.out.2.1.bl, HK.out.2.1.vec, HK.out.2.1.loc, HK.out.2.1.live, fun j => ?_⟩, ?_, hs.drew, (HTC.out.trans (Turns.of_setCell (P := Own L) wc ⟨fb, 0, none⟩ _ (Or.inr (Or.inr (Or.inr (Or.inr ⟨q.2, by rw [← HK.out.2.1.live]; exact HQL.out, Or.inl (by rw [HFB.out, HK.out.2.1.loc])⟩))))) (fun _ h => Or.inl h)).drew⟩
            · dsimp only
              by_cases e : j = q.2
              · rw [if_pos e, e, ← HK.out.2.1.dat q.2, HSH.out]; rfl
              · rw [if_neg e]; exact HK.out.2.1.dat j
            · dsimp only; rw [if_pos rfl]
          generalize (wc.setCell ⟨fb, 0, none⟩ (.slice (some ⟨gd, 0, none⟩) (f.lasts + n) dc)).drew = w9 at H9 ⊢
          have HTU : Hid (SeesQ w9 (.slice sa sp.length sc) sp) := by
            obtain ⟨L9, ha, _, _, ht⟩ := H9.out
            exact Lib.hid (HSS1.out.turned ht HSO.out)
          obtain ⟨L9, ha9, hd9, hh9, ht9⟩ := H9.out
          have hlv9 : L9.live q.2 := by rw [ha9.live, ← HK.out.2.1.live]; exact HQL.out
          have hlc9 : L9.loc q.2 = fb := by rw [ha9.loc, HFB.out, HK.out.2.1.loc]
          have hf9 := hh9.file q.2 hlv9
          rw [hlc9, hd9] at hf9
          dsimp only at hf9
          rw [Dk.upd_same] at hf9
          have e0 : w9.cell? ⟨fb, 0, none⟩ = some (.slice (some ⟨gd, 0, none⟩) (f.lasts + n) dc) := by rw [cell_of hf9.box]; rfl
          have e1 : w9.cell? ⟨fb, 1, none⟩ = some (.int .i64 (f.lasts : Int)) := by rw [cell_of hf9.box]; rfl
          have g1 := unfrozen_of hf9.box 1
          have HF9 := Lib.hid hf9; have HH9 := Lib.hid hh9; have HT9 := Lib.hid ht9; have HA9 := Lib.hid ha9; have HLV := Lib.hid hlv9; have HLC := Lib.hid hlc9; have HD9 := Lib.hid hd9
          clear d0 d1 gg0 gg1 HC HTC HST HKW2 H9 hf9 hh9 ht9 ha9 hlv9 hlc9 hd9
          by_cases hn0 : n = 0
          · subst hn0
            have hDl : (f.data.take (f.lasts + 0)).length = f.lasts := by rw [List.length_take, Nat.add_zero]; omega
            have HL : Hid (Dk.left f ks sp k = ⟨f.data.take (f.lasts + 0), (f.data.take (f.lasts + 0)).length⟩) := by
              rw [hDl, left_eq f, ← HNN.out, if_pos rfl, take_plus]; exact Lib.hid rfl
            have HE := Lib.hid (tails_end HH9.out HLV.out HLC.out HA9.out HT9.out HL.out HK.out.2.2.2.2 HT2.out HK.out.1 (z := (f.lasts : Int)) (by rw [hDl]) (by rw [hDl]; omega))
            clear hDl
            go_wp2_with fail
            go_roundw
            case rel => exact ⟨i + 1, k + 1, _, L9, by omega, by go_num, by go_num, by omega, HE⟩
            case measure => simp [intOf]; omega
          · have hnp : (0 : Int) < n := by omega
            cases hsp : sp[k]? with
            | none =>
              have hsl2 : (sp.length : Int) ≤ k := by have := List.getElem?_eq_none_iff.1 hsp; omega
              have hDl : (f.data.take (f.lasts + n)).length = f.lasts + n := by rw [List.length_take]; omega
              have HL : Hid (Dk.left f ks sp k = ⟨f.data.take (f.lasts + n), (f.data.take (f.lasts + n)).length⟩) := by
                rw [hDl, left_eq f, ← HNN.out, if_neg hn0, hsp, take_plus]; exact Lib.hid rfl
              have HE := Lib.hid (tails_end HH9.out HLV.out HLC.out HA9.out HT9.out HL.out HK.out.2.2.2.2 HT2.out HK.out.1 (z := (f.lasts : Int) + n) (by rw [hDl]; omega) (by rw [hDl]; omega))
              clear hDl hsp
              go_wp2_with fail
              go_roundw
              case rel => exact ⟨i + 1, k + 1, _, L9, by omega, by go_num, by go_num, by omega, HE⟩
              case measure => simp [intOf]; omega
            | some z =>
              have hsl2 : (k : Int) < sp.length := by
                rcases Nat.lt_or_ge k sp.length with h1 | h1
                · omega
                · rw [List.getElem?_eq_none h1] at hsp; cases hsp
              obtain ⟨sb, soff, hsa, s0, s1⟩ : ∃ sb soff, sa = some ⟨sb, soff, none⟩ ∧ w9.cell? ⟨sb, soff + k * 2, none⟩ = some (.int .i64 z.1) ∧ w9.cell? ⟨sb, soff + k * 2 + 1, none⟩ = some (.int .u32 (z.2 : Int)) := by
                rcases HTU.out with ⟨h1, _⟩ | ⟨b, off, cap, h1, _, h2⟩
                · rw [h1] at hsp; simp at hsp
                · simp only [Value.slice.injEq] at h1
                  exact ⟨b, off, h1.1, (h2 k z hsp).1, (h2 k z hsp).2⟩
              subst hsa
              have hDl : (f.data.take (f.lasts + n)).length = f.lasts + n := by rw [List.length_take]; omega
              have hr9 := HF9.out.row
              dsimp only at hr9
              rw [show (Value.slice (some ⟨gd, 0, none⟩) (f.lasts + n) dc) = .slice (some ⟨gd, 0, none⟩) (f.data.take (f.lasts + n)).length dc by rw [hDl]] at hr9
              obtain ⟨cur, hcur, hlie⟩ := lie_of hr9 f.lasts (by rw [hDl]; omega)
              have hdt : (f.data.take (f.lasts + n)).drop f.lasts = (f.data.drop f.lasts).take n := by rw [List.drop_take, Nat.add_sub_cancel_left]
              rw [hdt] at hlie
              have htl : ((f.data.drop f.lasts).take n).length = n := by rw [List.length_take, List.length_drop]; omega
              have hz2 := HSM.out z (List.mem_of_getElem? hsp)
              have HTN := fun w' (hw : Lie w' gd f.lasts ((f.data.drop f.lasts).take n) cur) => Lib.hid (turn_any w' gd f.lasts (dc - f.lasts) ((f.data.drop f.lasts).take n) cur z.1 z.2 hw (by rw [htl]; omega) (by rw [htl]; omega) hz2)
              rw [htl] at HTN
              have HLIE := Lib.hid hlie; have HCUR := Lib.hid hcur; have HR9 := Lib.hid hr9; have HTL := Lib.hid htl; have HDL := Lib.hid hDl; have HSP := Lib.hid hsp
              have hgs : sb ≠ gd := fun e => HSO.out (fun e0 => by have := HSP.out; rw [e0] at this; simp at this) sb rfl (by
                rw [e]
                exact (HA9.out.own gd).1 (Or.inr (Or.inr (Or.inr (Or.inr ⟨q.2, HLV.out, Or.inr (by rw [HD9.out]; rfl)⟩)))))
              have hgf : fb ≠ gd := by
                rw [← HLC.out]
                exact (HH9.out.lone.dat q.2 HLV.out gd (by rw [HD9.out]; rfl)).2.2.2.2 q.2 HLV.out
              have hfl9 : fb < w9.heap.size := heap_lt HF9.out.box
              have hsl9 : sb < w9.heap.size := by
                rcases HTU.out with ⟨h1, _⟩ | ⟨b, off, cap, h1, h2, _⟩
                · have := HSP.out; rw [h1] at this; simp at this
                · simp only [Value.slice.injEq, Option.some.injEq, Addr.mk.injEq] at h1
                  rw [h1.1.1]; exact h2
              have hdne := slice_tail gd f.lasts n dc (by omega)
              clear hlie hcur hr9 htl hDl hsp hdt hz2
              go_wp2_with fail
              go_region_held3 (fun w' => w'.cell? ⟨fb, 0, none⟩ = some (.slice (some ⟨gd, 0, none⟩) (f.lasts + n) dc) ∧ w'.cell? ⟨fb, 1, none⟩ = some (.int .i64 (f.lasts : Int)) ∧ w'.cell? ⟨sb, soff + k * 2, none⟩ = some (.int .i64 z.1) ∧ w'.cell? ⟨sb, soff + k * 2 + 1, none⟩ = some (.int .u32 (z.2 : Int)) ∧ fb < w'.heap.size ∧ sb < w'.heap.size)
                (first | exact ⟨e0, e1, s0, s1, hfl9, hsl9⟩ | exact spot_keep (by assumption) hgf hgs ht6)
                (first | (go_at_call 117; refine (HTN w9.drew HLIE.out).out.mono ?_; rintro e w6 ⟨rfl, ht6, cur', hl6, hs6, ho6⟩))
              have H12 : Hid (Holds w6 L9 { S with file := Dk.upd G q.2 ⟨(f.data.take (f.lasts + n)).take f.lasts ++ Dk.turn ((f.data.drop f.lasts).take n) z.1 z.2, f.lasts⟩ } ∧ Turns (Own L) w1 w6) := by
                have hrt := row_turned (t' := Dk.turn ((f.data.drop f.lasts).take n) z.1 z.2) HR9.out (by rw [HDL.out]; omega) HCUR.out (by rw [turn_length, HTL.out, HDL.out]; omega) hl6 hs6 (fun i hi => ho6 i (by rw [HDL.out] at hi; exact hi))
                have hnl : ((f.data.take (f.lasts + n)).take f.lasts ++ Dk.turn ((f.data.drop f.lasts).take n) z.1 z.2).length = f.lasts + n := by rw [List.length_append, turn_length, HTL.out, List.length_take, HDL.out]; omega
                have hsb := HH9.out.drew.setBytes q.2 gd HLV.out (by rw [HD9.out]; rfl) ht6 ((f.data.take (f.lasts + n)).take f.lasts ++ Dk.turn ((f.data.drop f.lasts).take n) z.1 z.2) (by
                  rw [HD9.out, hnl]
                  rw [HDL.out] at hrt
                  exact hrt) (by dsimp only; rw [Dk.upd_same, hnl]; exact Nat.le_add_right _ _)
                unfold Disk.setFile at hsb
                dsimp only at hsb
                rw [Dk.upd_same] at hsb
                have e : ∀ D, Dk.upd (Dk.upd G q.2 ⟨f.data.take (f.lasts + n), f.lasts⟩) q.2 ⟨D, f.lasts⟩ = Dk.upd G q.2 ⟨D, f.lasts⟩ := fun D => by
                  funext x
                  unfold Dk.upd
                  split <;> rfl
                rw [e] at hsb
                exact Lib.hid ⟨hsb, HT9.out.drew.trans ht6 (fun x hx => Or.inl (by rw [hx]; exact (HA9.out.own gd).1 (Or.inr (Or.inr (Or.inr (Or.inr ⟨q.2, HLV.out, Or.inr (by rw [HD9.out]; rfl)⟩))))))⟩
              have hDl : ((f.data.take (f.lasts + n)).take f.lasts ++ Dk.turn ((f.data.drop f.lasts).take n) z.1 z.2).length = f.lasts + n := by rw [List.length_append, turn_length, HTL.out, List.length_take, HDL.out]; omega
              have HL : Hid (Dk.left f ks sp k = ⟨(f.data.take (f.lasts + n)).take f.lasts ++ Dk.turn ((f.data.drop f.lasts).take n) z.1 z.2, ((f.data.take (f.lasts + n)).take f.lasts ++ Dk.turn ((f.data.drop f.lasts).take n) z.1 z.2).length⟩) := by
                rw [hDl, left_eq f, ← HNN.out, if_neg hn0, HSP.out, List.take_take, Nat.min_eq_left (Nat.le_add_right _ _)]; exact Lib.hid rfl
              have HE := Lib.hid (tails_end H12.out.1 HLV.out HLC.out HA9.out H12.out.2 HL.out HK.out.2.2.2.2 HT2.out HK.out.1 (z := (f.lasts : Int) + n) (by rw [hDl]; omega) (by rw [hDl]; omega))
              have hS6 := ‹w6.cell? ⟨fb, 0, none⟩ = _ ∧ _›
              obtain ⟨x0, x1, _, _, _, _⟩ := hS6
              have xg : w6.frozen? ⟨fb, 1, none⟩ = false := (World.frozen?_of_block (a := ⟨fb, 1, none⟩) (ht6.block fb hfl9 hgf)).trans g1
              clear hDl e0 e1 s0 s1 g1 ht6 hl6 hs6 ho6 HTN
              go_wp2_with fail
              go_roundw
              case rel => exact ⟨i + 1, k + 1, _, L9, by omega, by go_num, by go_num, by omega, HE⟩
              case measure => simp [intOf]; omega
    · obtain rfl : i = S.now.length := by omega
      clear hlt
      go_wp2_with fail
      go_end0
      obtain ⟨h1, h2, h3, h4, _⟩ := HK.out
      rw [List.drop_length] at h1
      have h5 : G = Dk.tails ks sp S.now 0 S.file := h1
      rw [← h5]
      exact ⟨rfl, L', h2, h3, (Turns.of_below (P := Own L) HB1.out).trans h4 (fun _ h => Or.inl h)⟩

end Go.Proofs.YtfeconankopjmaaGreatDoor
