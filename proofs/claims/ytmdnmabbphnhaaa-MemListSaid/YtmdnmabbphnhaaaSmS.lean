/- The walks of List.From, and of the function that it tells: a contract for whoever ranges over it. -/
import Derived.RangeFuncNested
import Derived.RangeFuncBound
import Derived.RangeFuncCalls
import Derived.RangeFuncLeaves
import Derived.Shelf.Abstract
import Derived.Shelf.RegionOpen
import Derived.WalkKit
import Derived.OwnWalkIn
import Derived.TacticsInMore
import Derived.LoopNIn
import Derived.LoopIn
import Derived.Test.YtmdnmabbphnhaaaSmI
namespace Go.Proofs.Ytmdnmabbphnhaaa.Sm
open Go.Proofs.Ytmdnmabbphnhaaa.Sk
open Go Go.RowKit Go.Shelf
set_option linter.unusedVariables false
attribute [local go_sem] Oper.semAt_some

set_option maxHeartbeats 1000000 in
/-- From: the list's address and the key, each in a box. -/
theorem from_any (q : Option Addr) (K : ByteArray) (w : World) (hK : K.size ≤ 281474976710656) :
    Calls Try.prog 29 #[.pointer q, .string K] w fun e w' => e = .returned (.func (.func 42) #[] #[.pointer (some ⟨w.heap.size, 0, none⟩), .pointer (some ⟨w.heap.size + 1, 0, none⟩)]) ∧
      Below w.heap.size w w' ∧ w'.cell? ⟨w.heap.size, 0, none⟩ = some (.pointer q) ∧ w'.cell? ⟨w.heap.size + 1, 0, none⟩ = some (.string K) := by
  have HCL := Lib.hid (fun W => clone_any K W hK)
  have hmf : ∀ (fn : Fn) (first cap : Array Value) (w : World), (Instr.makeFunc fn first cap).run Try.prog w = .ok (.func fn first cap) w := fun _ _ _ _ => rfl
  go_enter Try.func29, Try.ntmps29
  go_wp2_with fail
  refine (HCL.out _).mono ?_
  rintro e w2 ⟨rfl, hb2⟩
  have hb0 : Below w.heap.size w ((w.alloc (.cells #[.pointer q] 37)).alloc (.cells #[.string K] 9)) := ((Below.refl _ w).alloc (Nat.le_refl _) _).alloc (by simp) _
  have k0 : w2.cell? ⟨w.heap.size, 0, none⟩ = some (.pointer q) := by
    rw [hb2.cell (p := ⟨w.heap.size, 0, none⟩) (by simp; omega), World.cell?_alloc_past _ _ _ (by simp)]
    exact cell_of (heap_alloc_new w _)
  have k1 : w2.cell? ⟨w.heap.size + 1, 0, none⟩ = some (.string K) := by
    rw [hb2.cell (p := ⟨w.heap.size + 1, 0, none⟩) (by simp)]
    have := heap_alloc_new (w.alloc (.cells #[.pointer q] 37)) (.cells #[.string K] 9)
    rw [World.size_alloc] at this
    exact cell_of this
  have f1 : w2.frozen? ⟨w.heap.size + 1, 0, none⟩ = false := by
    rw [hb2.frozen (p := ⟨w.heap.size + 1, 0, none⟩) (by simp)]
    have := heap_alloc_new (w.alloc (.cells #[.pointer q] 37)) (.cells #[.string K] 9)
    rw [World.size_alloc] at this
    exact unfrozen_of this 0
  have HB := Lib.hid (hb0.trans (hb2.mono (by simp only [World.size_alloc]; omega)))
  clear hb2 hb0
  go_wp2_with fail
  go_ret
  refine ⟨rfl, HB.out.setCell (p := ⟨w.heap.size + 1, 0, none⟩) (by simp) _, ?_, World.cell?_setCell_same' _ _ _ (by rw [k1]; rfl)⟩
  rw [World.cell?_of_block (a := ⟨w.heap.size, 0, none⟩) (setCell_kept w2 ⟨w.heap.size + 1, 0, none⟩ _ (by simp))]
  exact k0

/-- What a row of keys tells from a place on. -/
def encS (y : It Ent) : Array Value := #[.string (txt y.key), enV y.val]
theorem grown_of_below {w w' : World} (h : Below w.heap.size w w') : w.grownBy w' none := ⟨h.os, h.tape, h.output, h.size, fun k hk _ => h.block k hk⟩

set_option maxRecDepth 100000 in
set_option maxHeartbeats 4000000 in
/-- The function ranges over the keys from one on, for every body that turns no block but some. -/
theorem from1_in (n : Nat) (hn : 1 ≤ n) (l B1 B2 : Nat) (Wr : Nat → Prop) (L : Lay) (s r : List (It Ent)) (K : ByteArray) (A xs : List (It Ent)) (hs : s = A ++ xs) (hseek : seek K.data.toList s = xs.head?) (J Jx : List (It Ent) → World → Prop)
    (G : It Ent → Prop) (hG : ∀ y ∈ xs, G y) (hY : ∀ pre x W, G x → J pre W → pre.length < xs.length → YieldAt Fence.wide (n - 1) Try.prog l (encS x) W fun e W' => (e = .returned (.bool true) ∧ J (pre ++ [x]) W' ∧ Turns Wr W W') ∨ (e = .returned (.bool false) ∧ Jx (pre ++ [x]) W'))
    (W : World) (hJ : AbidesFrom W.heap.size J) (h1 : W.cell? ⟨B1, 0, none⟩ = some (.pointer (some ⟨L.b, 0, none⟩))) (h2 : W.cell? ⟨B2, 0, none⟩ = some (.string K)) (hB1 : ¬ Wr B1) (hL : ListS W L s r) (hown : ∀ b, Own L s b → ¬ Wr b) (h0 : J [] W) :
    CallsIn Fence.wide n Try.prog 42 #[.func (.yield l) #[] #[], .pointer (some ⟨B1, 0, none⟩), .pointer (some ⟨B2, 0, none⟩)] W fun e W' => (∃ v, e = .returned v) ∧
      ((∃ ys, ys = xs ∧ J ys W') ∨ (∃ pre, pre <+: xs ∧ Jx pre W')) := by
  have HL := Lib.hid hL
  have HU := Lib.hid (shape_up hL.kin.up)
  have HK : Hid (∀ z ∈ shape s, z.1 ∈ keys r) := Lib.hid (fun z hz => hL.keys_in (A := []) rfl z hz)
  have HOW := Lib.hid hown
  have hpl : plI r (seek K.data.toList s) = plI r xs.head? := by rw [hseek]
  have HF := Lib.hid (find_any hL K)
  rw [hpl] at HF
  have HJ := Lib.hid hJ
  have HY := Lib.hid hY
  have HG := Lib.hid hG
  clear hL hJ hY hown hseek hpl hG
  refine callsIn_of_wp Try.func42 rfl trivial ?_ rfl
  simp only [Try.ntmps42, List.size_toArray, List.length_cons, List.length_nil, Nat.reduceAdd, Nat.reduceSub, Array.replicate_succ, Array.replicate_zero, List.push_toArray, List.append_toArray, List.nil_append, List.cons_append]
  gi_wp2_with (refine ⟨trivial, ?_⟩; gi_at_call 35; refine (callsIn_wide.2 HF.out).mono ?_; rintro e w1 ⟨rfl, hb1⟩)
  have HB1 : Hid (Turns Wr W w1) := Lib.hid (Turns.of_below hb1)
  have hB1l : B1 < W.heap.size := World.block_lt_of_cell? W _ h1
  have HJ0 : Hid (J [] w1) := Lib.hid (HJ.out [] W w1 none h0 (grown_of_below hb1) (fun r e => by cases e))
  have H1 := Lib.hid h1
  clear hb1 HF h2 h1 h0
  gi_loopw [4] (fun p wr => ∃ pre rest : List (It Ent), xs = pre ++ rest ∧ p = .int .i64 (plI r rest.head? : Int) ∧ Hid (J pre wr) ∧ Hid (Turns Wr W wr)) (fun p _ => left (keys r) (shape s) (intOf p).toNat)
  case atStart => exact ⟨[], xs, rfl, rfl, HJ0, HB1⟩
  case round =>
    clear HJ0 HB1
    obtain ⟨pre, rest, hx, rfl, HJS, HB⟩ := hrel
    cases rest with
    | nil =>
      gi_wp2
      go_end0
      exact ⟨⟨_, rfl⟩, .inl ⟨pre, by rw [hx, List.append_nil], HJS.out⟩⟩
    | cons y rest =>
      have hy : y ∈ s := by rw [hs, hx]; simp
      have hsh : shape s = shape (A ++ pre) ++ (y.key, y.h) :: shape rest := by rw [hs, hx]; simp [shape]
      have hyh := (HL.out.hgt y hy).1
      have HN : Hid (nxt (keys r) 0 (shape rest) = plI r rest.head?) := Lib.hid (plI_shape r rest fun z hz => (HL.out.hgt z (by rw [hs, hx]; simp [hz])).1)
      have HLT : Hid (left (keys r) (shape s) (plI r rest.head?) < left (keys r) (shape s) (plc (keys r) y.key)) := Lib.hid (by
        have h1 := left_at (ks := keys r) hsh HU.out HK.out
        have h2 := left_nxt (ks := keys r) (A := shape (A ++ pre ++ [y])) (B := shape rest) (by rw [hs, hx]; simp [shape]) HU.out HK.out 0
        rw [HN.out] at h2
        rw [h1]; omega)
      have hlen : pre.length < xs.length := by rw [hx]; simp
      have HLW : Hid (∀ W', Turns Wr W W' → ListS W' L s r) := Lib.hid (fun W' hb => HL.out.turned hb HOW.out)
      have HT := Lib.hid (tellAt_any (HLW.out wr HB.out) hy)
      rw [show tellV (some y) = .tuple #[.string (txt y.key), .agg #[.string y.val.key, .string y.val.val, .int .u64 (y.val.seq : Int), .bool y.val.gone], .bool true] from rfl] at HT
      have HLK := Lib.hid (fun W' (hb : Turns Wr W W') => linksAt_any (HLW.out W' hb) hy)
      have HLC := Lib.hid (fun W' (hb : Turns Wr W W') => (HLW.out W' hb).link hsh (j := 0) (by omega))
      rw [HN.out] at HLC
      have hyi : (0 : Int) < y.h := by omega
      have c1 : wr.cell? ⟨B1, 0, none⟩ = some (.pointer (some ⟨L.b, 0, none⟩)) := (World.cell?_of_block (a := ⟨B1, 0, none⟩) (HB.out.block B1 hB1l hB1)).trans H1.out
      rw [show (y :: rest).head? = some y from rfl, show plI r (some y) = plc (keys r) y.key from rfl]
      have hp := plc_pos (keys r) y.key
      have hne : ¬ ((plc (keys r) y.key : Nat) : Int) = 0 := by omega
      have HX := Lib.hid hx
      have HLEN := Lib.hid hlen
      have HGY := Lib.hid (HG.out y (by rw [hx]; simp))
      generalize plc (keys r) y.key = pc at *
      generalize hpn : plI r rest.head? = pn at *
      have HPN := Lib.hid hpn
      clear hsh hyh hx hlen hpn
      gi_wp2_with (refine ⟨trivial, ?_⟩; gi_at_call 41; refine (callsIn_wide.2 HT.out).mono ?_; rintro e w2 ⟨rfl, hb2⟩; have hb2a := hb2.alloc hb2.size (.cells #[.string y.val.key, .string y.val.val, .int .u64 (y.val.seq : Int), .bool y.val.gone] 32); have hJ2 := HJ.out pre wr _ none HJS.out (grown_of_below hb2a) (fun r e => by cases e); obtain ⟨fn, tmps, assign, body, hyy, hR⟩ := HY.out pre y _ HGY.out hJ2 HLEN.out; dsimp only [encS, enV] at hyy; have HB2 := Lib.hid (HB.out.below hb2a); clear hb2 hb2a hJ2)
      refine hR.mono ?_
      rintro e W3 (⟨rfl, hJ3, hk3⟩ | ⟨rfl, hJx3⟩)
      · have HB3 := Lib.hid (HB2.out.trans hk3 (fun _ hx => Or.inl hx))
        have HJ3 := Lib.hid hJ3
        have c3 : W3.cell? ⟨B1, 0, none⟩ = some (.pointer (some ⟨L.b, 0, none⟩)) := (World.cell?_of_block (a := ⟨B1, 0, none⟩) (HB3.out.block B1 hB1l hB1)).trans H1.out
        have hlc := HLC.out W3 HB3.out
        clear hJ3 hk3 hR hyy
        gi_wp2_with (refine ⟨trivial, ?_⟩; gi_at_call 32; refine (callsIn_wide.2 (HLK.out W3 HB3.out)).mono ?_; rintro e w4 ⟨rfl, rfl⟩)
        go_roundw
        case rel => exact ⟨pre ++ [y], rest, by rw [HX.out]; simp, by rw [HPN.out], HJ3, HB3⟩
        case measure => exact HLT.out
      · gi_wp2
        refine bodyPost_ret (results_none rfl _ _ _) rfl ?_
        exact ⟨⟨_, rfl⟩, .inr ⟨_, ⟨rest, by rw [HX.out]; simp⟩, hJx3⟩⟩

/-- What From tells ranges over the keys from one on. -/
theorem from_stops (n : Nat) (hn : 1 ≤ n) (B1 B2 : Nat) (Wr : Nat → Prop) (L : Lay) (s r : List (It Ent)) (K : ByteArray) (A xs : List (It Ent)) (hs : s = A ++ xs) (hseek : seek K.data.toList s = xs.head?) (w : World)
    (h1 : w.cell? ⟨B1, 0, none⟩ = some (.pointer (some ⟨L.b, 0, none⟩))) (h2 : w.cell? ⟨B2, 0, none⟩ = some (.string K)) (hB1 : ¬ Wr B1) (hL : ListS w L s r) (hown : ∀ b, Own L s b → ¬ Wr b) :
    SeqStopsK Fence.wide n Try.prog 42 #[.pointer (some ⟨B1, 0, none⟩), .pointer (some ⟨B2, 0, none⟩)] encS (Turns Wr) (fun ys => ys = xs) (fun pre => pre <+: xs) xs.length w := fun l J Jx W hW hJ _ hY h0 =>
  from1_in n hn l B1 B2 Wr L s r K A xs hs hseek J Jx (fun _ => True) (fun _ _ => trivial) (fun pre x W _ => hY pre x W) W hJ ((hW.cell (p := ⟨B1, 0, none⟩) (World.block_lt_of_cell? w _ h1)).trans h1) ((hW.cell (p := ⟨B2, 0, none⟩) (World.block_lt_of_cell? w _ h2)).trans h2) hB1 (hL.below hW) hown h0
theorem turnsK_t {Wr : Nat → Prop} {A B C : World} (h : Turns Wr A B) (k : Turns Wr B C) : Turns Wr A C := h.trans k (fun _ hx => Or.inl hx)
theorem turnsK_b {Wr : Nat → Prop} {w : World} (hw : ∀ k, w.heap.size ≤ k → Wr k) (W : World) (l : Nat) (o o' : Obj) (hl : w.heap.size ≤ l) (h : W.heap[l]? = some o) (_ : o.isCells = false) (_ : o.isWalk = false) : Turns Wr W (W.putObj l o') :=
  Turns.of_grown (grownBy_putObj' W l o') (fun k e => by cases e; exact hw _ hl)

end Go.Proofs.Ytmdnmabbphnhaaa.Sm
