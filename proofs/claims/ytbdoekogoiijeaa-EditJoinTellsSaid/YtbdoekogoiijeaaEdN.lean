/- The walk of layer 13's awake. -/
import Derived.Test.YtbdoekogoiijeaaEdM
import Derived.Deep.RegionHeld3
namespace Go.Proofs.Ytbdoekogoiijeaa
open Go.RowKit Sk
set_option linter.unusedVariables false
set_option maxRecDepth 20000

namespace Ed
def t0 : Tbl := ⟨3, 1, 2, 40, ⟨#[97]⟩, ⟨#[98]⟩, 5, 9⟩
def e0 : Edt := ⟨[t0], [], 0, 0, 0⟩
def bytes0 : List UInt8 := [1, 3, 1, 2, 40, 5, 9, 1, 97, 1, 98, 0, 0, 0, 0]
theorem enc0 : enc e0 = bytes0 := by decide +kernel
theorem chk0 : chk e0.add e0.drop = 0 := by decide +kernel
theorem in0 : In e0 := by
  refine ⟨fun t ht => ?_, by simp [e0], by simp [e0], by simp [e0], by simp [e0]⟩
  obtain rfl : t = t0 := by simpa [e0] using ht
  exact ⟨by simp [t0], by simp [t0], by simp [t0], by simp [t0], by simp [t0], by simp [t0]⟩
theorem right0 : Right e0 := right_of in0 chk0 (by simp [e0]) (by simp [e0])
theorem encode0 : encode e0 = (bytes0, 0) := by unfold encode; rw [if_pos chk0, enc0]; rfl
theorem decode0 : decode bytes0 = some e0 := by
  unfold decode
  rw [if_neg (by decide), ← enc0]
  exact dec_of e0 right0 chk0
def j1 : Edt := ⟨[t0], [], 0, 0, 4⟩
def j2 : Edt := ⟨[], [3, 7], 0, 0, 2⟩
theorem join0 : join [j1, j2] = ⟨[], [7], 0, 0, 4⟩ := by rfl
theorem calm0 : Calm [j1, j2] := by
  refine ⟨by simp, fun e he => ?_⟩
  have : e = j1 ∨ e = j2 := by simpa using he
  rcases this with rfl | rfl
  · refine ⟨by simp [j1], by simp [j1], ⟨fun t ht => ?_, by simp [j1], by simp [j1], by simp [j1], by simp [j1]⟩, fun t ht => ?_⟩
    · exact in0.1 t ht
    · obtain rfl : t = t0 := by simpa [j1] using ht
      exact ⟨by decide, by decide⟩
  · refine ⟨by simp [j2], by simp [j2], ⟨by simp [j2], fun n hn => ?_, by simp [j2], by simp [j2], by simp [j2]⟩, by simp [j2]⟩
    have : n = 3 ∨ n = 7 := by simpa [j2] using hn
    omega
end Ed

set_option maxHeartbeats 1000000 in
theorem table0_any (w : World) :
    Calls Try.prog 45 #[] w (Gives (.agg #[.int .u64 3, .int .i64 1, .int .i64 2, .int .i64 40, .string ⟨#[97]⟩, .string ⟨#[98]⟩, .int .u64 5, .int .u64 9]) w) := by
  go_enter Try.func45, Try.ntmps45
  go_wp2_with fail
  exact bodyPost_ret (v := .agg #[.int .u64 3, .int .i64 1, .int .i64 2, .int .i64 40, .string ⟨#[97]⟩, .string ⟨#[98]⟩, .int .u64 5, .int .u64 9]) (by simp [results, Try.results45, go_sem]) rfl ⟨rfl, by first | exact Below.refl _ _ | exact (Below.refl _ _).alloc (Nat.le_refl _) _⟩

theorem seesTb_cells {w : World} {B : Nat} {cs : Array Value} {ts : List Tbl} {t : TypeId} {n : Nat} (h : w.heap[B]? = some (.cells cs t (0, 0))) (hl : ts.length = n) (hc : cs.toList = ts.flatMap cellsTb) (cap : Nat) : SeesTb w (.slice (some ⟨B, 0, none⟩) n cap) ts := by
  subst hl
  refine Or.inr ⟨B, 0, cap, rfl, Sk.heap_lt h, fun i hi => ?_⟩
  obtain ⟨h0, h1, h2, h3, h4, h5, h6, h7⟩ := cellsTb_at ts i hi
  have k : ∀ j u, (ts.flatMap cellsTb)[j]? = some u → w.cell? ⟨B, j, none⟩ = some u := fun j u hj => by
    rw [Sk.cell_of h, ← hj, ← hc]; simp
  rw [Nat.zero_add]
  exact ⟨k _ _ h0, k _ _ h1, k _ _ h2, k _ _ h3, k _ _ h4, k _ _ h5, k _ _ h6, k _ _ h7⟩

theorem two_edits (w4 : World) : SeesEd (((w4.alloc (.cells #[.int .u64 3, .int .i64 1, .int .i64 2, .int .i64 40, .string ⟨#[97]⟩, .string ⟨#[98]⟩, .int .u64 5, .int .u64 9] 38)).alloc (.cells #[.int .u64 3, .int .u64 7] 28)).alloc (.cells #[.slice (some ⟨w4.heap.size, 0, none⟩) 1 1, .slice none 0 0, .int .u64 0, .int .u64 0, .int .u64 4, .slice none 0 0, .slice (some ⟨w4.heap.size + 1, 0, none⟩) 2 2, .int .u64 0, .int .u64 0, .int .u64 2] 30)) (.slice (some ⟨w4.heap.size + 1 + 1, 0, none⟩) 2 2) [Ed.j1, Ed.j2] := by
  have k1 := heap_alloc2_old w4 (.cells #[.int .u64 3, .int .i64 1, .int .i64 2, .int .i64 40, .string ⟨#[97]⟩, .string ⟨#[98]⟩, .int .u64 5, .int .u64 9] 38) (.cells #[.int .u64 3, .int .u64 7] 28)
  have k2 := heap_alloc2_new w4 (.cells #[.int .u64 3, .int .i64 1, .int .i64 2, .int .i64 40, .string ⟨#[97]⟩, .string ⟨#[98]⟩, .int .u64 5, .int .u64 9] 38) (.cells #[.int .u64 3, .int .u64 7] 28)
  have hsz : ((w4.alloc (.cells #[.int .u64 3, .int .i64 1, .int .i64 2, .int .i64 40, .string ⟨#[97]⟩, .string ⟨#[98]⟩, .int .u64 5, .int .u64 9] 38)).alloc (.cells #[.int .u64 3, .int .u64 7] 28)).heap.size = w4.heap.size + 1 + 1 := by simp
  generalize (w4.alloc (.cells #[.int .u64 3, .int .i64 1, .int .i64 2, .int .i64 40, .string ⟨#[97]⟩, .string ⟨#[98]⟩, .int .u64 5, .int .u64 9] 38)).alloc (.cells #[.int .u64 3, .int .u64 7] 28) = W at *
  have k3 := heap_alloc_new W (.cells #[.slice (some ⟨w4.heap.size, 0, none⟩) 1 1, .slice none 0 0, .int .u64 0, .int .u64 0, .int .u64 4, .slice none 0 0, .slice (some ⟨w4.heap.size + 1, 0, none⟩) 2 2, .int .u64 0, .int .u64 0, .int .u64 2] 30)
  have k1 := kept_block k1 ((Below.refl W.heap.size W).alloc (Nat.le_refl _) (.cells #[.slice (some ⟨w4.heap.size, 0, none⟩) 1 1, .slice none 0 0, .int .u64 0, .int .u64 0, .int .u64 4, .slice none 0 0, .slice (some ⟨w4.heap.size + 1, 0, none⟩) 2 2, .int .u64 0, .int .u64 0, .int .u64 2] 30))
  have k2 := kept_block k2 ((Below.refl W.heap.size W).alloc (Nat.le_refl _) (.cells #[.slice (some ⟨w4.heap.size, 0, none⟩) 1 1, .slice none 0 0, .int .u64 0, .int .u64 0, .int .u64 4, .slice none 0 0, .slice (some ⟨w4.heap.size + 1, 0, none⟩) 2 2, .int .u64 0, .int .u64 0, .int .u64 2] 30))
  rw [hsz] at k3
  generalize W.alloc (.cells #[.slice (some ⟨w4.heap.size, 0, none⟩) 1 1, .slice none 0 0, .int .u64 0, .int .u64 0, .int .u64 4, .slice none 0 0, .slice (some ⟨w4.heap.size + 1, 0, none⟩) 2 2, .int .u64 0, .int .u64 0, .int .u64 2] 30) = V at *
  have c : ∀ j, V.cell? ⟨w4.heap.size + 1 + 1, j, none⟩ = _ := fun j => Sk.cell_of (k := j) k3
  refine Or.inr ⟨_, 0, 2, rfl, Sk.heap_lt k3, fun i hi => ?_⟩
  match i, hi with
  | 0, _ => exact ⟨_, _, _, _, _, _, c 0, c 1, c 2, c 3, c 4, seesTb_cells (ts := [Ed.t0]) k1 rfl rfl 1, Or.inl ⟨rfl, _, _, rfl⟩⟩
  | 1, _ => exact ⟨_, _, _, _, _, _, c 5, c 6, c 7, c 8, c 9, Or.inl ⟨rfl, _, _, rfl⟩, seesU_heap k2 rfl (fun i hi => by
      match i, hi with
      | 0, _ => rfl
      | 1, _ => rfl)⟩

/-- What awake looks at, at its end. -/
abbrev AwS (w : World) (b3 g o b7 g2 o2 ac xc yc : Nat) (xo : Option Addr) : Prop := w.cell? ⟨b3, 0, none⟩ = some (.slice (some ⟨g, o, none⟩) 1 ac) ∧ w.cell? ⟨g, o, none⟩ = some (.int .u64 3) ∧ w.cell? ⟨g, o + 1, none⟩ = some (.int .i64 1) ∧ w.cell? ⟨g, o + 2, none⟩ = some (.int .i64 2) ∧ w.cell? ⟨g, o + 3, none⟩ = some (.int .i64 40) ∧ w.cell? ⟨g, o + 4, none⟩ = some (.string ⟨#[97]⟩) ∧ w.cell? ⟨g, o + 5, none⟩ = some (.string ⟨#[98]⟩) ∧ w.cell? ⟨g, o + 6, none⟩ = some (.int .u64 5) ∧ w.cell? ⟨g, o + 7, none⟩ = some (.int .u64 9) ∧ w.cell? ⟨b7, 0, none⟩ = some (.slice xo 0 xc) ∧ w.cell? ⟨b7, 1, none⟩ = some (.slice (some ⟨g2, o2, none⟩) 1 yc) ∧ w.cell? ⟨b7, 4, none⟩ = some (.int .u64 4) ∧ w.cell? ⟨g2, o2, none⟩ = some (.int .u64 7)
theorem AwS.of {w w' : World} {b3 g o b7 g2 o2 ac xc yc : Nat} {xo : Option Addr} (h : AwS w b3 g o b7 g2 o2 ac xc yc xo) {B : Nat} (hb : Below B w w') (k3 : b3 < B) (kg : g < B) (k7 : b7 < B) (kg2 : g2 < B) : AwS w' b3 g o b7 g2 o2 ac xc yc xo := by
  obtain ⟨h0, h1, h2, h3, h4, h5, h6, h7, h8, h9, h10, h11, h12⟩ := h
  exact ⟨(hb.cell (p := ⟨b3, 0, none⟩) k3).trans h0, (hb.cell (p := ⟨g, o, none⟩) kg).trans h1, (hb.cell (p := ⟨g, o + 1, none⟩) kg).trans h2, (hb.cell (p := ⟨g, o + 2, none⟩) kg).trans h3, (hb.cell (p := ⟨g, o + 3, none⟩) kg).trans h4, (hb.cell (p := ⟨g, o + 4, none⟩) kg).trans h5, (hb.cell (p := ⟨g, o + 5, none⟩) kg).trans h6, (hb.cell (p := ⟨g, o + 6, none⟩) kg).trans h7, (hb.cell (p := ⟨g, o + 7, none⟩) kg).trans h8, (hb.cell (p := ⟨b7, 0, none⟩) k7).trans h9, (hb.cell (p := ⟨b7, 1, none⟩) k7).trans h10, (hb.cell (p := ⟨b7, 4, none⟩) k7).trans h11, (hb.cell (p := ⟨g2, o2, none⟩) kg2).trans h12⟩

set_option maxHeartbeats 8000000 in
theorem awake_any (w : World) : Calls Try.prog 11 #[] w (Gives (.bool true) w) := by
  go_enter Try.func11, Try.ntmps11
  go_wp2_with fail
  refine (table0_any _).mono ?_
  rintro r w1 ⟨rfl, hb1⟩
  have HB1 := Lib.hid hb1
  clear hb1
  go_wp2_with fail
  have HE : Hid (∀ W a c, SeesTb W (.slice a 1 c) [Ed.t0] → Calls Try.prog 44 #[.agg #[.slice a 1 c, .slice none 0 0, .int .u64 0, .int .u64 0, .int .u64 0]] W (Told Ed.bytes0 0 W)) := Lib.hid (fun W a c h => by
    have := encode_any a 1 c none 0 0 Ed.e0 W h (Or.inl ⟨rfl, none, 0, rfl⟩) (by omega) (by omega) Ed.in0
    rw [Ed.encode0] at this
    exact this)
  refine (HE.out _ _ _ (seesTb_cells (heap_alloc_new w1 _) rfl rfl 1)).mono ?_
  rintro r w2 ⟨rfl, hb2⟩
  have HB2 := Lib.hid (Below.next (Below.next_alloc HB1.out _) hb2)
  clear hb2
  unfold Ed.bytes0
  go_wp2_with fail
  refine (decode_any _ _ (by decide)).mono ?_
  rintro r w3 ⟨hb3, hcase⟩
  have HB3 := Lib.hid (Below.next HB2.out hb3)
  have hD : Ed.decode (⟨#[1, 3, 1, 2, 40, 5, 9, 1, 97, 1, 98, 0, 0, 0, 0]⟩ : ByteArray).data.toList = some Ed.e0 := Ed.decode0
  rcases hcase with ⟨h, _⟩ | ⟨ed, ao, ac, bo, bc, h, rfl, hown, hnm⟩
  · rw [hD] at h; cases h
  · obtain rfl : Ed.e0 = ed := by rw [hD] at h; exact Option.some.inj h
    have HO3 : Hid (SeesTb w3 (.slice ao 1 ac) [Ed.t0]) := Lib.hid hown.sees
    clear h hown hnm hD hb3
    have q1 : Ed.e0.add.length = 1 := rfl
    have q2 : Ed.e0.drop.length = 0 := rfl
    have q3 : Ed.e0.log = 0 := rfl
    have q4 : Ed.e0.seq = 0 := rfl
    have q5 : Ed.e0.next = 0 := rfl
    rw [q1, q2, q3, q4, q5]
    clear q1 q2 q3 q4 q5
    unfold edV
    go_wp2_with fail
    refine (table0_any _).mono ?_
    rintro r w4 ⟨rfl, hb4⟩
    have HB4 := Lib.hid hb4
    clear hb4
    go_wp2_with fail
    have HJ : Hid (∀ W a c, SeesEd W (.slice a 2 c) [Ed.j1, Ed.j2] → Calls Try.prog 15 #[.slice a 2 c] W (EdMade ⟨[], [7], 0, 0, 4⟩ W)) := Lib.hid (fun W a c h => by
      have := join_any a 2 c _ W h Ed.calm0
      rw [Ed.join0] at this
      exact this)
    have HSE : Hid (SeesEd (((w4.alloc (.cells #[.int .u64 3, .int .i64 1, .int .i64 2, .int .i64 40, .string ⟨#[97]⟩, .string ⟨#[98]⟩, .int .u64 5, .int .u64 9] 38)).alloc (.cells #[.int .u64 3, .int .u64 7] 28)).alloc (.cells #[.slice (some ⟨w4.heap.size, 0, none⟩) 1 1, .slice none 0 0, .int .u64 0, .int .u64 0, .int .u64 4, .slice none 0 0, .slice (some ⟨w4.heap.size + 1, 0, none⟩) 2 2, .int .u64 0, .int .u64 0, .int .u64 2] 30)) (.slice (some ⟨w4.heap.size + 1 + 1, 0, none⟩) 2 2) [Ed.j1, Ed.j2]) := Lib.hid (two_edits w4)
    refine (HJ.out _ _ _ HSE.out).mono ?_
    rintro r w7 ⟨xo, xc, yo, yc, rfl, hj1, hj2, hb7⟩
    have HB7 : Hid (Below w4.heap.size w4 w7) := Lib.hid (Below.next (Below.next_alloc (Below.next_alloc ((Below.refl _ _).alloc (Nat.le_refl _) _) _) _) hb7)
    have HJ2 : Hid (SeesU w7 (.slice yo 1 yc) [7]) := Lib.hid hj2.sees
    clear hj1 hj2 hb7
    dsimp only [List.length_nil, List.length_singleton]
    unfold edV
    have hw3 : (w3.alloc (.cells #[.slice ao 1 ac, .slice bo 0 bc, .int .u64 0, .int .u64 0, .int .u64 0] 30)).heap[w3.heap.size]? = some _ := heap_alloc_new _ _
    have hw7 := kept_block (kept_block hw3 HB4.out) HB7.out
    have HO7 : Hid (SeesTb w7 (.slice ao 1 ac) [Ed.t0]) := Lib.hid (((HO3.out.below ((Below.refl _ _).alloc (Nat.le_refl _) _)).below HB4.out).below HB7.out)
    obtain ⟨-, g, o, hce⟩ := HO7.out.get
    obtain ⟨rfl, hg0, hob⟩ := hce 0 (by omega)
    have HT : Hid (∀ x, TbAt (w7.alloc x) g (o + 0 * 8) ([Ed.t0].getD 0 tbd)) := Lib.hid (fun x => hob.below ((Below.refl _ _).alloc (Nat.le_refl _) _) hg0)
    obtain ⟨-, g2, o2, hce2⟩ := HJ2.out.get
    obtain ⟨rfl, hg2, hcu⟩ := hce2 0 (by omega)
    have h3s : w3.heap.size < w7.heap.size := Sk.heap_lt hw7
    have HA : Hid (AwS (w7.alloc (.cells #[.slice xo 0 xc, .slice (some ⟨g2, o2, none⟩) 1 yc, .int .u64 0, .int .u64 0, .int .u64 4] 30)) w3.heap.size g o w7.heap.size g2 o2 ac xc yc xo) := Lib.hid (by
      have a0 := Sk.cell_of (k := 0) (kept_block hw7 ((Below.refl _ _).alloc (Nat.le_refl _) (.cells #[.slice xo 0 xc, .slice (some ⟨g2, o2, none⟩) 1 yc, .int .u64 0, .int .u64 0, .int .u64 4] 30)))
      obtain ⟨t0, t1, t2, t3, t4, t5, t6, t7⟩ := HT.out (.cells #[.slice xo 0 xc, .slice (some ⟨g2, o2, none⟩) 1 yc, .int .u64 0, .int .u64 0, .int .u64 4] 30)
      have hj := heap_alloc_new w7 (.cells #[.slice xo 0 xc, .slice (some ⟨g2, o2, none⟩) 1 yc, .int .u64 0, .int .u64 0, .int .u64 4] 30)
      have hu := (((Below.refl w7.heap.size w7).alloc (Nat.le_refl _) (.cells #[.slice xo 0 xc, .slice (some ⟨g2, o2, none⟩) 1 yc, .int .u64 0, .int .u64 0, .int .u64 4] 30)).cell (p := ⟨g2, o2 + 0, none⟩) hg2).trans hcu
      rw [Nat.zero_mul, Nat.add_zero] at t0 t1 t2 t3 t4 t5 t6 t7
      exact ⟨a0, t0, t1, t2, t3, t4, t5, t6, t7, Sk.cell_of (k := 0) hj, Sk.cell_of (k := 1) hj, Sk.cell_of (k := 4) hj, hu⟩)
    have hz8 : w7.heap.size < (w7.alloc (.cells #[.slice xo 0 xc, .slice (some ⟨g2, o2, none⟩) 1 yc, .int .u64 0, .int .u64 0, .int .u64 4] 30)).heap.size := by simp
    have HB8 : Hid (Below w.heap.size w (w7.alloc (.cells #[.slice xo 0 xc, .slice (some ⟨g2, o2, none⟩) 1 yc, .int .u64 0, .int .u64 0, .int .u64 4] 30))) := Lib.hid (Below.next_alloc (Below.next (Below.next (Below.next_alloc HB3.out _) HB4.out) HB7.out) _)
    clear hw3 hw7 hob hce hce2 hcu
    go_wp2_with fail
    generalize w7.alloc (.cells #[.slice xo 0 xc, .slice (some ⟨g2, o2, none⟩) 1 yc, .int .u64 0, .int .u64 0, .int .u64 4] 30) = W at *
    have hA := HA.out
    obtain ⟨c0, c1, c2, c3, c4, c5, c6, c7, c8, c9, c10, c11, c12⟩ := hA
    have HK : Hid (∀ v, Below W.drew.heap.size W.drew v → AwS v w3.heap.size g o w7.heap.size g2 o2 ac xc yc xo) := Lib.hid (fun v hb => AwS.of (w := W.drew) HA.out hb (by show _ < W.heap.size; omega) (by show _ < W.heap.size; omega) hz8 (by show _ < W.heap.size; omega))
    have HTA : Hid (∀ W, Calls Try.prog 45 #[] W (Gives (.agg #[.int .u64 3, .int .i64 1, .int .i64 2, .int .i64 40, .string ⟨#[97]⟩, .string ⟨#[98]⟩, .int .u64 5, .int .u64 9]) W)) := Lib.hid (fun W => table0_any W)
    go_region_held3 (fun w' => AwS w' w3.heap.size g o w7.heap.size g2 o2 ac xc yc xo)
      (first
        | exact HA.out
        | go_keep
        | exact HK.out _ hb9)
      (first
        | (go_at_call 45; (with_reducible refine (HTA.out _).mono ?_); rintro e w9 ⟨rfl, hb9⟩))
    all_goals
      have HB9 : Hid (Below w.heap.size w w9) := Lib.hid (Below.next HB8.out.drew hb9)
      clear hb9
      go_wp2_with fail
      go_ret
      exact ⟨rfl, HB9.out⟩

end Go.Proofs.Ytbdoekogoiijeaa
