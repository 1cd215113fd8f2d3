/- The walk of SkipKnown: it answers true, and nothing that was there has turned. -/
import Derived.Test.YtghfgffgcknbmaaSiH
import Derived.Test.YtghfgffgcknbmaaSkI
namespace Go.Proofs.Ytghfgffgcknbmaa.Si
open Go.Proofs.Ytghfgffgcknbmaa.Sk
open Go Go.RowKit
set_option linter.unusedVariables false

structure Mine (base : Nat) (w : World) (L : Lay) (s r : List (It Int)) : Prop where
  lies : ListS w L s r
  from_ : ∀ b, Own L s b → base ≤ b
def SetTo (base : Nat) (L : Lay) (s r : List (It Int)) (x : It Int) (w w' : World) : Prop := ∃ L', L'.b = L.b ∧ Mine base w' L' (put x s) (rput x r) ∧ Turns (Own L s) w w'
theorem set_mine {base : Nat} {w : World} {L : Lay} {s r : List (It Int)} (h : Mine base w L s r) (hbase : base ≤ w.heap.size) (K : ByteArray) (V : Int) (H : Int) (hK : K.size ≤ 1000000) (hr : r.length < 100000) :
    Calls Try.prog 20 #[.pointer (some ⟨L.b, 0, none⟩), .string K, .int .i64 V, .int .i64 H] w fun e w' => e = .returned (.bool (find K.data.toList s).isNone) ∧ SetTo base L s r ⟨K.data.toList, V, clampH H⟩ w w' := by
  refine (set_any h.lies K V H hK hr).mono ?_
  rintro e w' ⟨rfl, L', h1, h2, h3, h4⟩
  refine ⟨rfl, L', h1, ⟨h2, fun b hb => ?_⟩, h3⟩
  rcases h4 b hb with h5 | h5
  · exact h.from_ b h5
  · omega
theorem turns_base {base : Nat} {w w' : World} {L : Lay} {s r : List (It Int)} (h : Mine base w L s r) (ht : Turns (Own L s) w w') (hbase : base ≤ w.heap.size) : Below base w w' := ht.to_below hbase h.from_

set_option maxHeartbeats 4000000 in
set_option maxRecDepth 100000 in
theorem known_walk (w : World) : Calls Try.prog 5 #[] w fun e w' => e = .returned (.bool true) ∧ Below w.heap.size w w' := by
  have HAW := Lib.hid Sk.awake_any
  have HNEW := Lib.hid (new_any w)
  have HS1 := Lib.hid (fun W L (h : Mine w.heap.size W L [] []) (hb : w.heap.size ≤ W.heap.size) => set_mine h hb ⟨#[98]⟩ 1 2 (by decide) (by decide))
  have HS2 := Lib.hid (fun W L (h : Mine w.heap.size W L [(⟨[98], 1, 2⟩ : It Int)] [(⟨[98], 1, 2⟩ : It Int)]) (hb : w.heap.size ≤ W.heap.size) => set_mine h hb ⟨#[97]⟩ 2 0 (by decide) (by decide))
  have HS3 := Lib.hid (fun W L (h : Mine w.heap.size W L [(⟨[97], 2, 1⟩ : It Int), ⟨[98], 1, 2⟩] [(⟨[98], 1, 2⟩ : It Int), ⟨[97], 2, 1⟩]) (hb : w.heap.size ≤ W.heap.size) => set_mine h hb ⟨#[99]⟩ 3 99 (by decide) (by decide))
  have HS4 := Lib.hid (fun W L (h : Mine w.heap.size W L [(⟨[97], 2, 1⟩ : It Int), ⟨[98], 1, 2⟩, ⟨[99], 3, 12⟩] [(⟨[98], 1, 2⟩ : It Int), ⟨[97], 2, 1⟩, ⟨[99], 3, 12⟩]) (hb : w.heap.size ≤ W.heap.size) => set_mine h hb ⟨#[98]⟩ 4 7 (by decide) (by decide))
  have HQ1 : Hid (∀ W L, ListS W L [(⟨[97], 2, 1⟩ : It Int), ⟨[98], 4, 2⟩, ⟨[99], 3, 12⟩] [(⟨[98], 4, 2⟩ : It Int), ⟨[97], 2, 1⟩, ⟨[99], 3, 12⟩] → Calls Try.prog 21 #[.pointer (some ⟨L.b, 0, none⟩), .string ⟨#[98]⟩] W fun e w' => e = .returned (.tuple #[.int .i64 4, .bool true]) ∧ Below W.heap.size W w') := Lib.hid (fun W L h => get_any h ⟨#[98]⟩)
  have HQ2 : Hid (∀ W L, ListS W L [(⟨[97], 2, 1⟩ : It Int), ⟨[98], 4, 2⟩, ⟨[99], 3, 12⟩] [(⟨[98], 4, 2⟩ : It Int), ⟨[97], 2, 1⟩, ⟨[99], 3, 12⟩] → Calls Try.prog 21 #[.pointer (some ⟨L.b, 0, none⟩), .string ⟨#[100]⟩] W fun e w' => e = .returned (.tuple #[.int .i64 0, .bool false]) ∧ Below W.heap.size W w') := Lib.hid (fun W L h => get_any h ⟨#[100]⟩)
  have HQ3 : Hid (∀ W L, ListS W L [(⟨[97], 2, 1⟩ : It Int), ⟨[98], 4, 2⟩, ⟨[99], 3, 12⟩] [(⟨[98], 4, 2⟩ : It Int), ⟨[97], 2, 1⟩, ⟨[99], 3, 12⟩] → Calls Try.prog 22 #[.pointer (some ⟨L.b, 0, none⟩), .string ⟨#[97, 98]⟩] W fun e w' => e = .returned (.tuple #[.string ⟨#[98]⟩, .int .i64 4, .bool true]) ∧ Below W.heap.size W w') := Lib.hid (fun W L h => seek_any h ⟨#[97, 98]⟩)
  have HQ4 : Hid (∀ W L, ListS W L [(⟨[97], 2, 1⟩ : It Int), ⟨[98], 4, 2⟩, ⟨[99], 3, 12⟩] [(⟨[98], 4, 2⟩ : It Int), ⟨[97], 2, 1⟩, ⟨[99], 3, 12⟩] → Calls Try.prog 23 #[.pointer (some ⟨L.b, 0, none⟩), .string ⟨#[98]⟩] W fun e w' => e = .returned (.tuple #[.string ⟨#[99]⟩, .int .i64 3, .bool true]) ∧ Below W.heap.size W w') := Lib.hid (fun W L h => after_any h ⟨#[98]⟩)
  have HQ5 : Hid (∀ W L, ListS W L [(⟨[97], 2, 1⟩ : It Int), ⟨[98], 4, 2⟩, ⟨[99], 3, 12⟩] [(⟨[98], 4, 2⟩ : It Int), ⟨[97], 2, 1⟩, ⟨[99], 3, 12⟩] → Calls Try.prog 22 #[.pointer (some ⟨L.b, 0, none⟩), .string ⟨#[100]⟩] W fun e w' => e = .returned (.tuple #[.string ⟨#[]⟩, .int .i64 0, .bool false]) ∧ Below W.heap.size W w') := Lib.hid (fun W L h => seek_any h ⟨#[100]⟩)
  have HTW := Lib.hid (fun W L (h : ListS W L [(⟨[97], 2, 1⟩ : It Int), ⟨[98], 4, 2⟩, ⟨[99], 3, 12⟩] [(⟨[98], 4, 2⟩ : It Int), ⟨[97], 2, 1⟩, ⟨[99], 3, 12⟩]) => towers_any h)
  have HR1 := Lib.hid (fun W L (h : ListS W L [(⟨[97], 2, 1⟩ : It Int), ⟨[98], 4, 2⟩, ⟨[99], 3, 12⟩] [(⟨[98], 4, 2⟩ : It Int), ⟨[97], 2, 1⟩, ⟨[99], 3, 12⟩]) => rows_any h 1)
  have HR2 := Lib.hid (fun W L (h : ListS W L [(⟨[97], 2, 1⟩ : It Int), ⟨[98], 4, 2⟩, ⟨[99], 3, 12⟩] [(⟨[98], 4, 2⟩ : It Int), ⟨[97], 2, 1⟩, ⟨[99], 3, 12⟩]) => rows_any h 2)
  have HR3 := Lib.hid (fun W L (h : ListS W L [(⟨[97], 2, 1⟩ : It Int), ⟨[98], 4, 2⟩, ⟨[99], 3, 12⟩] [(⟨[98], 4, 2⟩ : It Int), ⟨[97], 2, 1⟩, ⟨[99], 3, 12⟩]) => rows_any h 0)
  have HR4 := Lib.hid (fun W L (h : ListS W L [(⟨[97], 2, 1⟩ : It Int), ⟨[98], 4, 2⟩, ⟨[99], 3, 12⟩] [(⟨[98], 4, 2⟩ : It Int), ⟨[97], 2, 1⟩, ⟨[99], 3, 12⟩]) => rows_any h 11)
  have HR5 := Lib.hid (fun W L (h : ListS W L [(⟨[97], 2, 1⟩ : It Int), ⟨[98], 4, 2⟩, ⟨[99], 3, 12⟩] [(⟨[98], 4, 2⟩ : It Int), ⟨[97], 2, 1⟩, ⟨[99], 3, 12⟩]) => rows_any h 12)
  have HR6 := Lib.hid (fun W L (h : ListS W L [(⟨[97], 2, 1⟩ : It Int), ⟨[98], 4, 2⟩, ⟨[99], 3, 12⟩] [(⟨[98], 4, 2⟩ : It Int), ⟨[97], 2, 1⟩, ⟨[99], 3, 12⟩]) => rows_any h (-1))
  have HL := Lib.hid (fun W L (h : ListS W L [(⟨[97], 2, 1⟩ : It Int), ⟨[98], 4, 2⟩, ⟨[99], 3, 12⟩] [(⟨[98], 4, 2⟩ : It Int), ⟨[97], 2, 1⟩, ⟨[99], 3, 12⟩]) => len_any h)
  go_enter Try.func5, Try.ntmps5
  go_wp2_with fail
  refine HNEW.out.mono ?_
  rintro e w1 ⟨rfl, hb1, hl1⟩
  have M1 : Hid (Mine w.heap.size w1 ⟨w.heap.size, .slice none 0 0, fun _ => 0⟩ [] []) := Lib.hid ⟨hl1, fun b hb => by
    rcases hb with rfl | hb | ⟨y, hy, _⟩
    · exact Nat.le_refl _
    · simp [Value.ownBlock] at hb
    · cases hy⟩
  have B1 := Lib.hid hb1
  clear hb1 hl1
  go_wp2_with fail
  refine (HS1.out w1 _ M1.out B1.out.size).mono ?_
  rintro e w2 ⟨rfl, L2, hL2, m2, t2⟩
  have B2 := Lib.hid (B1.out.trans (turns_base M1.out t2 B1.out.size))
  have M2 : Hid (Mine w.heap.size w2 L2 [(⟨[98], 1, 2⟩ : It Int)] [(⟨[98], 1, 2⟩ : It Int)]) := Lib.hid m2
  have hL2' : L2.b = w.heap.size := hL2
  clear m2 t2 hL2
  have C2 := HS2.out w2 L2 M2.out B2.out.size
  rw [hL2'] at C2
  go_wp2_with fail
  refine C2.mono ?_
  clear C2
  rintro e w3 ⟨rfl, L3, hL3, m3, t3⟩
  have B3 := Lib.hid (B2.out.trans (turns_base M2.out t3 B2.out.size))
  have M3 : Hid (Mine w.heap.size w3 L3 [(⟨[97], 2, 1⟩ : It Int), ⟨[98], 1, 2⟩] [(⟨[98], 1, 2⟩ : It Int), ⟨[97], 2, 1⟩]) := Lib.hid m3
  have hL3' : L3.b = w.heap.size := hL3.trans hL2'
  clear m3 t3 hL3
  have C3 := HS3.out w3 L3 M3.out B3.out.size
  rw [hL3'] at C3
  go_wp2_with fail
  refine C3.mono ?_
  clear C3
  rintro e w4 ⟨rfl, L4, hL4, m4, t4⟩
  have B4 := Lib.hid (B3.out.trans (turns_base M3.out t4 B3.out.size))
  have M4 : Hid (Mine w.heap.size w4 L4 [(⟨[97], 2, 1⟩ : It Int), ⟨[98], 1, 2⟩, ⟨[99], 3, 12⟩] [(⟨[98], 1, 2⟩ : It Int), ⟨[97], 2, 1⟩, ⟨[99], 3, 12⟩]) := Lib.hid m4
  have hL4' : L4.b = w.heap.size := hL4.trans hL3'
  clear m4 t4 hL4
  have C4 := HS4.out w4 L4 M4.out B4.out.size
  rw [hL4'] at C4
  go_wp2_with fail
  refine C4.mono ?_
  clear C4
  rintro e w5 ⟨rfl, L5, hL5, m5, t5⟩
  have B5 := Lib.hid (B4.out.trans (turns_base M4.out t5 B4.out.size))
  have M5 : Hid (Mine w.heap.size w5 L5 [(⟨[97], 2, 1⟩ : It Int), ⟨[98], 4, 2⟩, ⟨[99], 3, 12⟩] [(⟨[98], 4, 2⟩ : It Int), ⟨[97], 2, 1⟩, ⟨[99], 3, 12⟩]) := Lib.hid m5
  have hL5' : L5.b = w.heap.size := hL5.trans hL4'
  clear m5 t5 hL5
  rw [show (find (⟨#[98]⟩ : ByteArray).data.toList [(⟨[97], 2, 1⟩ : It Int), ⟨[98], 1, 2⟩, ⟨[99], 3, 12⟩]).isNone = false from rfl]
  have N5 := Lib.hid M5.out.lies
  have C5 := HQ1.out w5 L5 N5.out
  rw [hL5'] at C5
  go_wp2_with fail
  refine C5.mono ?_
  clear C5
  rintro e w6 ⟨rfl, hb6⟩
  have N6 := Lib.hid (N5.out.below hb6)
  have B6 := Lib.hid (Below.next B5.out hb6)
  clear hb6
  have C6 := HQ2.out w6 L5 N6.out
  rw [hL5'] at C6
  go_wp2_with fail
  refine C6.mono ?_
  clear C6
  rintro e w7 ⟨rfl, hb7⟩
  have N7 := Lib.hid (N6.out.below hb7)
  have B7 := Lib.hid (Below.next B6.out hb7)
  clear hb7
  have C7 := HQ3.out w7 L5 N7.out
  rw [hL5'] at C7
  go_wp2_with fail
  refine C7.mono ?_
  clear C7
  rintro e w8 ⟨rfl, hb8⟩
  have N8 := Lib.hid (N7.out.below hb8)
  have B8 := Lib.hid (Below.next B7.out hb8)
  clear hb8
  have C8 := HQ4.out w8 L5 N8.out
  rw [hL5'] at C8
  go_wp2_with fail
  refine C8.mono ?_
  clear C8
  rintro e w9 ⟨rfl, hb9⟩
  have N9 := Lib.hid (N8.out.below hb9)
  have B9 := Lib.hid (Below.next B8.out hb9)
  clear hb9
  have C9 := HQ5.out w9 L5 N9.out
  rw [hL5'] at C9
  go_wp2_with fail
  refine C9.mono ?_
  clear C9
  rintro e w10 ⟨rfl, hb10⟩
  have N10 := Lib.hid (N9.out.below hb10)
  have B10 := Lib.hid (Below.next B9.out hb10)
  clear hb10
  have C10 := HTW.out w10 L5 N10.out
  rw [hL5'] at C10
  go_wp2_with fail
  refine C10.mono ?_
  clear C10
  rintro e w11 ⟨v11, rfl, hv11, hb11⟩
  rw [show ([(⟨[97], 2, 1⟩ : It Int), ⟨[98], 4, 2⟩, ⟨[99], 3, 12⟩]).length = 3 from rfl] at hv11
  obtain ⟨g11, cap11, hsh11, _, hg11, _, _, hc11⟩ := row_shape hv11 (by decide)
  have z11_0 : w11.cell? ⟨g11, 0, none⟩ = some (.int .i64 1) := hc11 0 _ rfl
  have z11_1 : w11.cell? ⟨g11, 1, none⟩ = some (.int .i64 2) := hc11 1 _ rfl
  have z11_2 : w11.cell? ⟨g11, 2, none⟩ = some (.int .i64 12) := hc11 2 _ rfl
  subst hsh11
  clear hc11 hv11
  have N11 := Lib.hid (N10.out.below hb11)
  have B11 := Lib.hid (Below.next B10.out hb11)
  clear hb11
  have C11 := HR1.out w11 L5 N11.out
  rw [hL5'] at C11
  go_wp2_with fail
  refine C11.mono ?_
  clear C11
  rintro e w12 ⟨v12, rfl, hv12, hb12⟩
  rw [show (rowL 1 [(⟨[97], 2, 1⟩ : It Int), ⟨[98], 4, 2⟩, ⟨[99], 3, 12⟩]).length = 2 from rfl] at hv12
  obtain ⟨g12, cap12, hsh12, _, hg12, _, _, hc12⟩ := row_shape hv12 (by decide)
  have z12_0 : w12.cell? ⟨g12, 0, none⟩ = some (.string ⟨#[98]⟩) := hc12 0 _ rfl
  have z12_1 : w12.cell? ⟨g12, 1, none⟩ = some (.string ⟨#[99]⟩) := hc12 1 _ rfl
  subst hsh12
  clear hc12 hv12
  have N12 := Lib.hid (N11.out.below hb12)
  have z11_0 := (hb12.cell (p := ⟨g11, 0, none⟩) hg11).trans z11_0
  have z11_1 := (hb12.cell (p := ⟨g11, 1, none⟩) hg11).trans z11_1
  have z11_2 := (hb12.cell (p := ⟨g11, 2, none⟩) hg11).trans z11_2
  have hg11 := Nat.lt_of_lt_of_le hg11 hb12.size
  have B12 := Lib.hid (Below.next B11.out hb12)
  clear hb12
  have C12 := HR2.out w12 L5 N12.out
  rw [hL5'] at C12
  go_wp2_with fail
  refine C12.mono ?_
  clear C12
  rintro e w13 ⟨v13, rfl, hv13, hb13⟩
  rw [show (rowL 2 [(⟨[97], 2, 1⟩ : It Int), ⟨[98], 4, 2⟩, ⟨[99], 3, 12⟩]).length = 1 from rfl] at hv13
  obtain ⟨g13, cap13, hsh13, _, hg13, _, _, hc13⟩ := row_shape hv13 (by decide)
  have z13_0 : w13.cell? ⟨g13, 0, none⟩ = some (.string ⟨#[99]⟩) := hc13 0 _ rfl
  subst hsh13
  clear hc13 hv13
  have N13 := Lib.hid (N12.out.below hb13)
  have z11_0 := (hb13.cell (p := ⟨g11, 0, none⟩) hg11).trans z11_0
  have z11_1 := (hb13.cell (p := ⟨g11, 1, none⟩) hg11).trans z11_1
  have z11_2 := (hb13.cell (p := ⟨g11, 2, none⟩) hg11).trans z11_2
  have z12_0 := (hb13.cell (p := ⟨g12, 0, none⟩) hg12).trans z12_0
  have z12_1 := (hb13.cell (p := ⟨g12, 1, none⟩) hg12).trans z12_1
  have B13 := Lib.hid (Below.next B12.out hb13)
  clear hb13
  have C13 := HR3.out w13 L5 N13.out
  rw [hL5'] at C13
  go_wp2_with fail
  refine C13.mono ?_
  clear C13
  rintro e w14 ⟨v14, rfl, hv14, hb14⟩
  obtain ⟨ao14, cap14, hsh14⟩ := Sk.row_any hv14
  rw [show (rowL 0 [(⟨[97], 2, 1⟩ : It Int), ⟨[98], 4, 2⟩, ⟨[99], 3, 12⟩]).length = 3 from rfl] at hsh14
  subst hsh14
  clear hv14
  have N14 := Lib.hid (N13.out.below hb14)
  have B14 := Lib.hid (Below.next B13.out hb14)
  clear hb14
  have C14 := HR4.out w14 L5 N14.out
  rw [hL5'] at C14
  go_wp2_with fail
  refine C14.mono ?_
  clear C14
  rintro e w15 ⟨v15, rfl, hv15, hb15⟩
  obtain ⟨ao15, cap15, hsh15⟩ := Sk.row_any hv15
  rw [show (rowL 11 [(⟨[97], 2, 1⟩ : It Int), ⟨[98], 4, 2⟩, ⟨[99], 3, 12⟩]).length = 1 from rfl] at hsh15
  subst hsh15
  clear hv15
  have N15 := Lib.hid (N14.out.below hb15)
  have B15 := Lib.hid (Below.next B14.out hb15)
  clear hb15
  have C15 := HR5.out w15 L5 N15.out
  rw [hL5'] at C15
  go_wp2_with fail
  refine C15.mono ?_
  clear C15
  rintro e w16 ⟨v16, rfl, hv16, hb16⟩
  obtain ⟨ao16, cap16, hsh16⟩ := Sk.row_any hv16
  rw [show (rowL 12 [(⟨[97], 2, 1⟩ : It Int), ⟨[98], 4, 2⟩, ⟨[99], 3, 12⟩]).length = 0 from rfl] at hsh16
  subst hsh16
  clear hv16
  have N16 := Lib.hid (N15.out.below hb16)
  have B16 := Lib.hid (Below.next B15.out hb16)
  clear hb16
  have C16 := HR6.out w16 L5 N16.out
  rw [hL5'] at C16
  go_wp2_with fail
  refine C16.mono ?_
  clear C16
  rintro e w17 ⟨v17, rfl, hv17, hb17⟩
  obtain ⟨ao17, cap17, hsh17⟩ := Sk.row_any hv17
  rw [show (rowL (-1) [(⟨[97], 2, 1⟩ : It Int), ⟨[98], 4, 2⟩, ⟨[99], 3, 12⟩]).length = 0 from rfl] at hsh17
  subst hsh17
  clear hv17
  have N17 := Lib.hid (N16.out.below hb17)
  have B17 := Lib.hid (Below.next B16.out hb17)
  clear hb17
  have C17 := HL.out w17 L5 N17.out
  rw [hL5'] at C17
  go_wp2_with fail
  refine C17.mono ?_
  clear C17
  rintro e w18 ⟨rfl, rfl⟩
  go_wp2_with fail
  refine (HAW.out _).mono ?_
  rintro e wz ⟨rfl, hbz⟩
  have BZ := Lib.hid (Below.next B17.out hbz)
  clear hbz
  go_wp2_with fail
  go_ret
  exact ⟨rfl, BZ.out⟩

end Go.Proofs.Ytghfgffgcknbmaa.Si
