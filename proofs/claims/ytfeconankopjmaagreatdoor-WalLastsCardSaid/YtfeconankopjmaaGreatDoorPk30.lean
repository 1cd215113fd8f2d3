/- Texts on the program's own functions, several in one: WlAw, WlSame. -/
import Derived.Test.YtfeconankopjmaaGreatDoorPk24
import Derived.Test.YtfeconankopjmaaGreatDoorPk28
import Derived.Test.YtfeconankopjmaaGreatDoorPk29
import Derived.Test.YtfeconankopjmaaGreatDoorPk31
import Derived.Test.YtfeconankopjmaaGreatDoorPk32

/- The walks of layer 7's small and awake. -/
namespace Go.Proofs.YtfeconankopjmaaGreatDoor
set_option linter.unusedVariables false
open Go.RowKit Go.Maps
open Dk (Dir Chg Disk File Str)

theorem seesO_one {w : World} {B : Nat} {k v : ByteArray} {f : Bool} {t : TypeId} (h : w.heap[B]? = some (.cells #[.string k, .string v, .bool f] t (0, 0))) : Bn.SeesO w (.slice (some ⟨B, 0, none⟩) 1 1) [⟨k, v, f⟩] := by
  refine Or.inr ⟨B, 0, 1, rfl, heap_lt h, fun i hi => ?_⟩
  match i, hi with
  | 0, _ =>
    refine ⟨?_, ?_, ?_⟩ <;> (rw [cell_of h]; rfl)
/-- A batch of a row of batches. -/
theorem ownsB_get {w : World} {base : Nat} {a : Option Addr} {n c i : Nat} {bs : List Wl.Bat} {b : Wl.Bat} (h : OwnsB w base (.slice a n c) bs) (hb : bs[i]? = some b) :
    ∃ g v, a = some ⟨g, 0, none⟩ ∧ w.cell? ⟨g, i * 2, none⟩ = some (.int .u64 (b.1 : Nat)) ∧ w.cell? ⟨g, i * 2 + 1, none⟩ = some v ∧ Bn.OwnsO w base v b.2 := by
  obtain ⟨ps, hrow, hare⟩ := h
  obtain ⟨v, hp, ho⟩ := hare.at hb
  obtain ⟨q0, q1⟩ := cellsB_at ps i _ hp
  have hc := fun (g : Nat) (hv : (Value.slice a n c).ownBlock = some g) => hrow.cells (g := g) hv
  have hi : i < bs.length := (List.getElem?_eq_some_iff.1 hb).1
  rcases hrow.2 with ⟨_, h0⟩ | ⟨g, cap, cur, hv, _⟩
  · omega
  · simp only [Value.slice.injEq] at hv
    obtain ⟨rfl, _, _⟩ := hv
    have e : ∀ j, (⟨g, 0, none⟩ : Addr).add j = ⟨g, j, none⟩ := fun j => by unfold Addr.add; split <;> simp_all
    have c0 := hc g rfl _ _ q0
    have c1 := hc g rfl _ _ q1
    rw [e] at c0 c1
    exact ⟨g, v, rfl, c0, c1, ho⟩
/-- An operation of a row of operations. -/
theorem ownsO_get {w : World} {base : Nat} {v : Value} {i : Nat} {os : List Bn.Ob} (h : Bn.OwnsO w base v os) (hi : i < os.length) :
    ∃ g c, v = .slice (some ⟨g, 0, none⟩) os.length c ∧ w.cell? ⟨g, i * 3, none⟩ = some (.string (os.getD i Bn.obd).key) ∧ w.cell? ⟨g, i * 3 + 1, none⟩ = some (.string (os.getD i Bn.obd).val) ∧ w.cell? ⟨g, i * 3 + 2, none⟩ = some (.bool (os.getD i Bn.obd).gone) := by
  have hc := fun (g : Nat) (hv : v.ownBlock = some g) => World.ownsRow.cells h (g := g) hv
  obtain ⟨q0, q1, q2⟩ := Bn.cellsO_at os i hi
  rcases h.2 with ⟨_, h0⟩ | ⟨g, cap, cur, rfl, _⟩
  · omega
  · have e : ∀ j, (⟨g, 0, none⟩ : Addr).add j = ⟨g, j, none⟩ := fun j => by unfold Addr.add; split <;> simp_all
    have c0 := hc g rfl _ _ q0
    have c1 := hc g rfl _ _ q1
    have c2 := hc g rfl _ _ q2
    rw [e] at c0 c1 c2
    exact ⟨g, cap, rfl, c0, c1, c2⟩
set_option maxHeartbeats 2000000 in
set_option maxRecDepth 100000 in
theorem small_any (seq : Nat) (w : World) : Calls Tryz.prog 11 #[.int .u64 seq] w fun e w' => ∃ a2, e = .returned (Bn.batV seq a2 1 1) ∧ Bn.SeesO w' (.slice a2 1 1) [Wl.opA] ∧ Below w.heap.size w w' := by
  go_enter Tryz.func11, Tryz.ntmps11
  go_wp2_with fail
  refine bodyPost_ret (v := Bn.batV seq (some ⟨w.heap.size + 1, 0, none⟩) 1 1) (by simp [results, Tryz.results11, go_sem, Bn.batV]) rfl ⟨_, rfl, seesO_one (t := 42) ?_, Below.next_alloc ((Below.refl _ _).alloc (Nat.le_refl _) _) _⟩
  have := heap_alloc_new (w.alloc (.cells #[.int .u64 (seq : Nat), .slice (some ⟨w.heap.size + 1, 0, none⟩) 1 1] 32)) (.cells #[.string ⟨#[97]⟩, .string ⟨#[120]⟩, .bool false] 42)
  rw [World.size_alloc] at this
  exact this

set_option maxHeartbeats 8000000 in
set_option maxRecDepth 100000 in
theorem wawake_any (w : World) (K : Knows w.heap.size w) : Calls Tryz.prog 17 #[] w (Gives (.bool true) w) := by
  have HK := Lib.hid (fun W (hb : Below w.heap.size w W) => K.next hb)
  have HUP : Hid (Rise (Wl.nums Wl.s6.now) ∧ (Wl.nums Wl.s6.now).length ≤ 400) := Lib.hid (by rw [Wl.r3]; exact ⟨trivial, by decide⟩)
  clear K
  go_enter Tryz.func17, Tryz.ntmps17
  go_wp2_with fail
  refine (new_any _ _).mono ?_
  rintro e w0 ⟨L0, rfl, hh, hb, ho⟩
  have D0 : Hid (Disc w0 w.heap.size L0 Wl.s0 0 0) := Lib.hid ⟨hh, Dk.good_fresh 1048576, ho, hb.size⟩
  have B0 := Lib.hid hb
  obtain ⟨d, hd⟩ : ∃ d, d = L0.d := ⟨_, rfl⟩
  rw [← hd]
  have HD0 : Hid (L0.d = d) := hd.symm
  clear hh hb ho hd
  have hc := begin_disc D0.out (by decide) (by decide) 3 (by decide) (HK.out _ B0.out)
  rw [HD0.out] at hc
  have HC := Lib.hid hc; clear hc
  go_wp2_with fail
  refine HC.out.mono ?_
  rintro e w1 ⟨p, L1, rfl, hld, hD, hB, hlv, ⟨_, g, rfl, hl⟩ | ⟨h, _⟩⟩
  case inr => exact absurd Wl.r0 h
  rw [show errV (Wl.beg Wl.s0 3).1 = _ from congrArg errV Wl.r0]
  unfold errV
  have Vg1 : Hid (Live w1 L1 g d 3) := Lib.hid hl
  clear hl
  have D1 : Hid (Disc w1 w.heap.size L1 Wl.s1 2 0) := Lib.hid hD
  have HD1 : Hid (L1.d = d) := Lib.hid hld
  have B1 : Hid (Below w.heap.size w w1) := Lib.hid (B0.out.trans hB)
  clear hld hD hB hlv HC
  clear D0 HD0 B0
  have HN : Hid (Calls Tryz.prog 14 #[.pointer (some ⟨g, 0, none⟩)] w1 fun e w' => e = .returned (.int .u64 3) ∧ w' = w1) := Lib.hid (N_any w1 g d 3 Vg1.out.at')
  go_wp2_with fail
  refine HN.out.mono ?_
  rintro e wz ⟨rfl, hw⟩
  subst wz
  clear HN
  go_wp2_with fail
  refine (small_any 1 _).mono ?_
  rintro e w2 ⟨a2, rfl, hS, hb⟩
  have HS2 := Lib.hid hS
  have D2 := Lib.hid (D1.out.below hb)
  have HD2 := HD1
  have B2 := Lib.hid (Below.next B1.out hb)
  have Vg2 := Lib.hid (Vg1.out.below hb)
  clear D1 HD1 B1 Vg1
  clear hb hS
  have hv := Vg2.out
  rw [← HD2.out] at hv
  have hc := add_disc D2.out (by decide) (by decide) hv (by decide) (HK.out _ B2.out) 1 a2 1 1 [Wl.opA] HS2.out (by decide)
  have HC := Lib.hid hc; clear hc
  clear hv
  go_wp2_with fail
  refine HC.out.mono ?_
  rintro e w3 ⟨rfl, L3, hld, hD, hB, hlv⟩
  rw [show errV (Wl.add Wl.s1 3 (1, [Wl.opA])).1 = _ from congrArg errV Wl.r1]
  unfold errV
  have hld := hld.trans HD2.out
  have D3 : Hid (Disc w3 w.heap.size L3 Wl.s2 4 14000) := Lib.hid hD
  have HD3 : Hid (L3.d = d) := Lib.hid hld
  have B3 : Hid (Below w.heap.size w w3) := Lib.hid (B2.out.trans hB)
  have Vg3 := Lib.hid (hlv.live Vg2.out)
  clear hld hD hB hlv HC
  clear D2 HD2 B2 Vg2
  have hc := fuse_any _ D3.out.holds 2
  rw [HD3.out] at hc
  have HC := Lib.hid hc; clear hc
  go_wp2_with fail
  refine HC.out.mono ?_
  rintro e w4 ⟨rfl, hg⟩
  obtain ⟨L4, hld, hD, hB, hlv⟩ := D3.out.onward hg (n' := 4) (m' := 14000) (D3.out.good.light 2 (by decide))
  have hld := hld.trans HD3.out
  clear hg
  have D4 : Hid (Disc w4 w.heap.size L4 Wl.s3 4 14000) := Lib.hid hD
  have HD4 : Hid (L4.d = d) := Lib.hid hld
  have B4 : Hid (Below w.heap.size w w4) := Lib.hid (B3.out.trans hB)
  have Vg4 := Lib.hid (hlv.live Vg3.out)
  clear hld hD hB hlv HC
  clear D3 HD3 B3 Vg3
  go_wp2_with fail
  refine (small_any 2 _).mono ?_
  rintro e w5 ⟨a5, rfl, hS, hb⟩
  have HS5 := Lib.hid hS
  have D5 := Lib.hid (D4.out.below hb)
  have HD5 := HD4
  have B5 := Lib.hid (Below.next B4.out hb)
  have Vg5 := Lib.hid (Vg4.out.below hb)
  clear D4 HD4 B4 Vg4
  clear hb hS
  have hv := Vg5.out
  rw [← HD5.out] at hv
  have hc := add_disc D5.out (by decide) (by decide) hv (by decide) (HK.out _ B5.out) 2 a5 1 1 [Wl.opA] HS5.out (by decide)
  have HC := Lib.hid hc; clear hc
  clear hv
  go_wp2_with fail
  refine HC.out.mono ?_
  rintro e w6 ⟨rfl, L6, hld, hD, hB, hlv⟩
  rw [show errV (Wl.add Wl.s3 3 (2, [Wl.opA])).1 = _ from congrArg errV Wl.r2]
  unfold errV
  have hld := hld.trans HD5.out
  have D6 : Hid (Disc w6 w.heap.size L6 Wl.s4 6 28000) := Lib.hid hD
  have HD6 : Hid (L6.d = d) := Lib.hid hld
  have B6 : Hid (Below w.heap.size w w6) := Lib.hid (B5.out.trans hB)
  have Vg6 := Lib.hid (hlv.live Vg5.out)
  clear hld hD hB hlv HC
  clear D5 HD5 B5 Vg5
  have Da : Hid (Disc (w6.alloc (.cells #[.int .i64 31] 3)) w.heap.size L6 Wl.s4 6 28000) := Lib.hid (D6.out.below ((Below.refl _ _).alloc (Nat.le_refl _) _))
  have Ba : Hid (Below w.heap.size w (w6.alloc (.cells #[.int .i64 31] 3))) := Lib.hid (B6.out.alloc D6.out.lo _)
  have hch : Choices (w6.alloc (.cells #[.int .i64 31] 3)) L6 (.slice (some ⟨w6.heap.size, 0, none⟩) 1 1) (.slice none 0 0) ⟨0, [31], []⟩ := by
    refine ⟨Or.inr ⟨w6.heap.size, 0, 1, rfl, by rw [World.size_alloc]; omega, fun i x hi => ?_⟩, Or.inl ⟨rfl, none, 0, rfl⟩, fun _ b hb ho => ?_, fun _ b hb => by simp [Value.ownBlock] at hb, fun _ b hb => ?_, fun _ b hb => by simp [Value.ownBlock] at hb, by simp, by simp, fun q hq => by simp at hq⟩
    · cases i with
      | zero =>
        simp only [List.getElem?_cons_zero, Option.some.injEq] at hi
        subst hi
        rw [cell_of (heap_alloc_new w6 _)]
        rfl
      | succ i => simp at hi
    · have h1 := D6.out.holds.own_lt ho
      have h2 : w6.heap.size = b := by simpa [Value.ownBlock] using hb
      omega
    · have h2 : w6.heap.size = b := by simpa [Value.ownBlock] using hb
      rw [World.size_alloc]; omega
  have hc := crash_any _ Da.out.holds (fits_of Da.out.good (by decide) (by decide)) Da.out.good.cans (sizes_of Da.out.good) _ _ ⟨0, [31], []⟩ hch (crash_fits Da.out.good (by decide) (by decide) 0).1 (crash_fits Da.out.good (by decide) (by decide) 0).2
  rw [HD6.out] at hc
  have HC := Lib.hid hc; clear hc hch
  go_wp2_with fail
  refine HC.out.mono ?_
  rintro e w7 ⟨rfl, hg⟩
  obtain ⟨L7, hld, hD, hB, hlv⟩ := Da.out.onward hg (n' := 7) (m' := 28000) (Da.out.good.crash _)
  have hld := hld.trans HD6.out
  clear hg
  have B6 := Ba
  have Vg6 := Lib.hid (Vg6.out.below ((Below.refl _ _).alloc (Nat.le_refl _) (.cells #[.int .i64 31] 3)))
  have D7 : Hid (Disc w7 w.heap.size L7 Wl.s5 7 28000) := Lib.hid hD
  have HD7 : Hid (L7.d = d) := Lib.hid hld
  have B7 : Hid (Below w.heap.size w w7) := Lib.hid (B6.out.trans hB)
  have Vg7 := Lib.hid (hlv.live Vg6.out)
  clear hld hD hB hlv HC
  clear D6 HD6 B6 Vg6
  clear Da Ba
  have hc := start_any _ D7.out.holds
  rw [HD7.out] at hc
  have HC := Lib.hid hc; clear hc
  go_wp2_with fail
  refine HC.out.mono ?_
  rintro e w8 ⟨rfl, hg⟩
  obtain ⟨L8, hld, hD, hB, hlv⟩ := D7.out.onward hg (n' := 7) (m' := 28000) (D7.out.good.start)
  have hld := hld.trans HD7.out
  clear hg
  have D8 : Hid (Disc w8 w.heap.size L8 Wl.s6 7 28000) := Lib.hid hD
  have HD8 : Hid (L8.d = d) := Lib.hid hld
  have B8 : Hid (Below w.heap.size w w8) := Lib.hid (B7.out.trans hB)
  have Vg8 := Lib.hid (hlv.live Vg7.out)
  clear hld hD hB hlv HC
  clear D7 HD7 B7 Vg7
  have hc := replay_any w8 D8.out.holds D8.out.good (by decide) (by decide) (HK.out _ B8.out) D8.out.lo HUP.out.1 HUP.out.2 0 Wl.r4
  rw [HD8.out, Wl.r5] at hc
  have HC := Lib.hid hc; clear hc
  go_wp2_with fail
  refine HC.out.mono ?_
  rintro e w9 ⟨v, rfl, hob, hb⟩
  obtain ⟨am, cm, rfl⟩ := hob.slice
  have OBm9 := Lib.hid (hob.mono D8.out.lo)
  have D9 := Lib.hid (D8.out.below hb)
  have HD9 := HD8
  have B9 := Lib.hid (Below.next B8.out hb)
  have Vg9 := Lib.hid (Vg8.out.below hb)
  clear D8 HD8 B8 Vg8
  clear hb hob HC
  have hc := logs_any w9 D9.out.holds D9.out.good (by decide) (by decide) (HK.out _ B9.out) D9.out.lo HUP.out.1 HUP.out.2
  rw [HD9.out, Wl.r3] at hc
  have HC := Lib.hid hc; clear hc
  go_wp2_with fail
  refine HC.out.mono ?_
  rintro e w10 ⟨v, rfl, hrow, hb⟩
  obtain ⟨an, cn, rfl⟩ := row_shape hrow
  have NRn10 := Lib.hid (ownsRow_mono hrow D9.out.lo)
  have D10 := Lib.hid (D9.out.below hb)
  have HD10 := HD9
  have B10 := Lib.hid (Below.next B9.out hb)
  have Vg10 := Lib.hid (Vg9.out.below hb)
  have OBm10 := Lib.hid (OwnsB.below OBm9.out hb)
  clear D9 HD9 B9 Vg9 OBm9
  clear hb hrow HC
  obtain ⟨gm, vm, rfl, m0, m1, hom⟩ := ownsB_get (i := 0) OBm10.out rfl
  obtain ⟨go, co, rfl, o0, o1, o2⟩ := ownsO_get (i := 0) hom (by decide)
  have NN := NRn10.out
  obtain ⟨gn, hgn, n0⟩ := row_at NN (k := 0) (v := .int .u64 3) rfl (by decide)
  obtain rfl := hgn
  replace m0 : w10.cell? ⟨gm, 0, none⟩ = some (.int .u64 1) := m0
  replace m1 : w10.cell? ⟨gm, 1, none⟩ = some (.slice (some ⟨go, 0, none⟩) 1 co) := m1
  replace o1 : w10.cell? ⟨go, 1, none⟩ = some (.string ⟨#[120]⟩) := o1
  clear NN hom o0 o2
  go_wp2_with fail
  go_ret
  exact ⟨rfl, B10.out⟩

end Go.Proofs.YtfeconankopjmaaGreatDoor

/- The walks of layer 7's given and Same: of the same batches. -/
namespace Go.Proofs.YtfeconankopjmaaGreatDoor
set_option linter.unusedVariables false
open Go.RowKit Go.Maps
open Dk (Dir Chg Disk File Str)

/-- Batches that can be read from an address on. -/
def SeesB (w : World) (a : Option Addr) (bs : List Wl.Bat) : Prop := ∀ (i : Nat) (b : Wl.Bat), bs[i]? = some b → ∃ g off vi, a = some ⟨g, off, none⟩ ∧ g < w.heap.size ∧ w.cell? ⟨g, off + i * 2, none⟩ = some (.int .u64 (b.1 : Nat)) ∧ w.cell? ⟨g, off + i * 2 + 1, none⟩ = some vi ∧ Bn.SeesO w vi b.2
theorem SeesB.below {w w' : World} {a : Option Addr} {bs : List Wl.Bat} (h : SeesB w a bs) (hb : Below w.heap.size w w') : SeesB w' a bs := fun i b hi => by
  obtain ⟨g, off, vi, ha, hg, c0, c1, ho⟩ := h i b hi
  exact ⟨g, off, vi, ha, Nat.lt_of_lt_of_le hg hb.size, (hb.cell (p := ⟨g, off + i * 2, none⟩) hg).trans c0, (hb.cell (p := ⟨g, off + i * 2 + 1, none⟩) hg).trans c1, ho.below hb⟩
theorem seesO_slice {w : World} {v : Value} {ps : List Bn.Ob} (h : Bn.SeesO w v ps) : ∃ a c, v = .slice a ps.length c := by
  rcases h with ⟨rfl, a, c, rfl⟩ | ⟨b, off, cap, rfl, _⟩
  · exact ⟨a, c, rfl⟩
  · exact ⟨_, _, rfl⟩
theorem OwnsB.seesB {w : World} {base : Nat} {a : Option Addr} {n c : Nat} {bs : List Wl.Bat} (h : OwnsB w base (.slice a n c) bs) : SeesB w a bs := fun i b hi => by
  obtain ⟨g, v, ha, c0, c1, ho⟩ := ownsB_get h hi
  refine ⟨g, 0, v, ha, World.block_lt_of_cell? w _ c0, by rw [Nat.zero_add]; exact c0, by rw [Nat.zero_add]; exact c1, ho.sees⟩
/-- A row of raw batches whose operations can be read. -/
def RawB (w : World) (ps : List (Nat × Value)) (bs : List Wl.Bat) : Prop := ps.length = bs.length ∧ ∀ (i : Nat) (b : Wl.Bat), bs[i]? = some b → ∃ v, ps[i]? = some (b.1, v) ∧ Bn.SeesO w v b.2
theorem RawB.below {w w' : World} {ps : List (Nat × Value)} {bs : List Wl.Bat} (h : RawB w ps bs) (hb : Below w.heap.size w w') : RawB w' ps bs := ⟨h.1, fun i b hi => by
  obtain ⟨v, h1, h2⟩ := h.2 i b hi
  exact ⟨v, h1, h2.below hb⟩⟩
theorem RawB.sees {w : World} {base : Nat} {t : TypeId} {a : Option Addr} {n c : Nat} {ps : List (Nat × Value)} {bs : List Wl.Bat} (h : RawB w ps bs) (hr : w.ownsRow base t 2 (.slice a n c) bs.length (ps.flatMap cellsB)) : SeesB w a bs := fun i b hi => by
  obtain ⟨v, hp, ho⟩ := h.2 i b hi
  obtain ⟨q0, q1⟩ := cellsB_at ps i _ hp
  have hc := fun (g : Nat) (hv : (Value.slice a n c).ownBlock = some g) => hr.cells (g := g) hv
  have hl : i < bs.length := (List.getElem?_eq_some_iff.1 hi).1
  rcases hr.2 with ⟨_, h0⟩ | ⟨g, cap, cur, hv, _⟩
  · omega
  · simp only [Value.slice.injEq] at hv
    obtain ⟨rfl, _, _⟩ := hv
    have e : ∀ j, (⟨g, 0, none⟩ : Addr).add j = ⟨g, j, none⟩ := fun j => by unfold Addr.add; split <;> simp_all
    have c0 := hc g rfl _ _ q0
    have c1 := hc g rfl _ _ q1
    rw [e] at c0 c1
    exact ⟨g, 0, v, rfl, World.block_lt_of_cell? w _ c0, by rw [Nat.zero_add]; exact c0, by rw [Nat.zero_add]; exact c1, ho⟩
theorem OwnsA.raw {base lo : Nat} {w : World} {v : Value} {bs : List Wl.Bat} (h : OwnsA base lo w v bs) (hb : base ≤ w.heap.size) : ∃ ps, w.ownsRow lo 32 2 v bs.length (ps.flatMap cellsB) ∧ RawB w ps bs := by
  obtain ⟨ps, hr, ha⟩ := h
  exact ⟨ps, hr, ha.length, fun i b hi => by
    obtain ⟨v, h1, h2⟩ := ha.at hi
    exact ⟨v, h1, h2.sees hb⟩⟩
theorem RawB.snoc {w : World} {ps : List (Nat × Value)} {bs : List Wl.Bat} {p : Nat × Value} {b : Wl.Bat} (h : RawB w ps bs) (h1 : p.1 = b.1) (h2 : Bn.SeesO w p.2 b.2) : RawB w (ps ++ [p]) (bs ++ [b]) := by
  refine ⟨by rw [List.length_append, List.length_append, h.1]; rfl, fun i c hi => ?_⟩
  rcases Nat.lt_or_ge i bs.length with hl | hl
  · rw [List.getElem?_append_left hl] at hi
    obtain ⟨v, h3, h4⟩ := h.2 i c hi
    exact ⟨v, by rw [List.getElem?_append_left (by rw [h.1]; exact hl)]; exact h3, h4⟩
  · rw [List.getElem?_append_right hl] at hi
    have he : i - bs.length = 0 := by
      have := (List.getElem?_eq_some_iff.1 hi).1
      simp at this
      omega
    rw [he] at hi
    simp only [List.getElem?_cons_zero, Option.some.injEq] at hi
    subst hi
    refine ⟨p.2, ?_, h2⟩
    rw [List.getElem?_append_right (by rw [h.1]; exact hl), h.1, he, ← h1]
    rfl
theorem info_ref : (Tryz.prog.info? 82).map (fun i => (i.zero, i.size, i.bytes)) = some (some (.agg #[.int .u64 0, .slice none 0 0]), 2, 32) := by kernel_rfl

set_option maxHeartbeats 4000000 in
set_option maxRecDepth 100000 in
/-- Same of the same batches. -/
theorem sameB_any (w : World) (a b : Option Addr) (n c c2 : Nat) (bs : List Wl.Bat) (hn : bs.length = n) (hl : n ≤ 1000000) (ha : SeesB w a bs) (hb : SeesB w b bs) (hops : ∀ x ∈ bs, x.2.length ≤ 1000000) :
    Calls Tryz.prog 22 #[.slice a n c, .slice b n c2] w (Gives (.bool true) w) := by
  have HA := Lib.hid ha; have HB := Lib.hid hb; have HN := Lib.hid hn; have HO := Lib.hid hops
  have hn2 : (n : Int) ≤ 1000000 := by omega
  clear ha hb hn hl hops
  go_enter Tryz.func22, Tryz.ntmps22
  go_wp2_with fail
  go_loopw [5] (fun z wr => ∃ k : Nat, k ≤ n ∧ z = .int .i64 (k : Int) ∧ Hid (Below w.heap.size w wr)) (fun z _ => n - (intOf z).toNat)
  case atStart => exact ⟨0, Nat.zero_le _, rfl, Lib.hid (Below.refl _ _)⟩
  case round =>
    obtain ⟨k, hk, rfl, HK⟩ := hrel
    by_cases hlt : k < n
    · have hlt2 : (k : Int) < n := by omega
      obtain ⟨⟨seq, ops⟩, hx⟩ : ∃ x, bs[k]? = some x := ⟨_, List.getElem?_eq_getElem (by have := HN.out; omega)⟩
      obtain ⟨g, off, vi, hga, hg, c0, c1, hs⟩ := HA.out.below HK.out k _ hx
      obtain ⟨g2, off2, vi2, hgb, hg2, d0, d1, hs2⟩ := HB.out.below HK.out k _ hx
      subst hga hgb
      obtain ⟨a3, c3, rfl⟩ := seesO_slice hs
      obtain ⟨b3, d3, rfl⟩ := seesO_slice hs2
      have hol := HO.out _ (List.mem_of_getElem? hx)
      dsimp only at c0 c1 d0 d1 hs hs2 hol
      have HGI := Lib.hid (fun W => Bn.given_any seq a3 ops.length c3 W)
      have HSA := Lib.hid (fun W (hb : Below wr.heap.size wr W) => Bn.same_yes seq a3 ops.length c3 b3 d3 ops W (hs.below hb) (hs2.below hb) hol)
      have HLG := Lib.hid (And.intro hg hg2)
      obtain ⟨ol, hle⟩ : ∃ ol, ol = ops.length := ⟨_, rfl⟩
      rw [← hle] at c1 d1 HGI HSA
      clear hs hs2 hol hle hx hg hg2
      go_wp2_with fail
      go_region_held3 (fun w' => w'.cell? ⟨g, off + k * 2, none⟩ = some (.int .u64 (seq : Nat)) ∧ w'.cell? ⟨g, off + k * 2 + 1, none⟩ = some (.slice a3 ol c3) ∧ w'.cell? ⟨g2, off2 + k * 2, none⟩ = some (.int .u64 (seq : Nat)) ∧ w'.cell? ⟨g2, off2 + k * 2 + 1, none⟩ = some (.slice b3 ol d3))
        (first
          | go_keep
          | (go_split_ands
             have hx2 := Below.next (Below.refl wr.heap.size wr).drew hb2
             refine ⟨?_, ?_, ?_, ?_⟩
             · exact (hx2.cell (p := ⟨g, off + k * 2, none⟩) HLG.out.1).trans c0
             · exact (hx2.cell (p := ⟨g, off + k * 2 + 1, none⟩) HLG.out.1).trans c1
             · exact (hx2.cell (p := ⟨g2, off2 + k * 2, none⟩) HLG.out.2).trans d0
             · exact (hx2.cell (p := ⟨g2, off2 + k * 2 + 1, none⟩) HLG.out.2).trans d1)
          | (go_split_ands
             have hx3 := Below.next (Below.next (Below.refl wr.heap.size wr).drew hb2) hb3
             refine ⟨?_, ?_, ?_, ?_⟩
             · exact (hx3.cell (p := ⟨g, off + k * 2, none⟩) HLG.out.1).trans c0
             · exact (hx3.cell (p := ⟨g, off + k * 2 + 1, none⟩) HLG.out.1).trans c1
             · exact (hx3.cell (p := ⟨g2, off2 + k * 2, none⟩) HLG.out.2).trans d0
             · exact (hx3.cell (p := ⟨g2, off2 + k * 2 + 1, none⟩) HLG.out.2).trans d1))
        (first
          | (go_at_call 35; refine (HGI.out _).mono ?_; rintro e w2 ⟨rfl, hb2⟩)
          | (go_at_call 61; refine (HSA.out _ (Below.next (Below.refl wr.heap.size wr).drew hb2)).mono ?_; rintro e w3 ⟨rfl, hb3⟩))
      have HB3 := Lib.hid (Below.next HK.out (Below.next (Below.next (Below.refl wr.heap.size wr).drew hb2) hb3))
      clear c0 c1 d0 d1 hb2 hb3
      go_wp2_with fail
      go_roundw
      case rel => exact ⟨k + 1, by omega, by go_num, HB3⟩
      case measure => simp [intOf]; omega
    · obtain rfl : k = n := by omega
      have hlt2 : ¬ ((k : Nat) : Int) < (k : Nat) := by omega
      go_wp2_with fail
      go_ret
      exact ⟨rfl, HK.out⟩
set_option maxHeartbeats 4000000 in
set_option maxRecDepth 100000 in
/-- The document's batches of a program's. -/
theorem givenB_any (w : World) (a : Option Addr) (n c : Nat) (bs : List Wl.Bat) (hn : bs.length = n) (hl : n ≤ 1000000) (ha : SeesB w a bs) :
    Calls Tryz.prog 30 #[.slice a n c] w fun e w' => ∃ v ps, e = .returned v ∧ w'.ownsRow w.heap.size 82 2 v bs.length (ps.flatMap cellsB) ∧ RawB w ps bs ∧ Below w.heap.size w w' := by
  obtain ⟨i0, hi, hz0, hz1, hz2⟩ := info_parts info_ref
  have HA := Lib.hid ha; have HN := Lib.hid hn
  have hn2 : (n : Int) ≤ 1000000 := by omega
  clear ha hn hl
  go_enter Tryz.func30, Tryz.ntmps30
  go_wp2_with fail
  go_loopw [3, 4] (fun u z wr => ∃ (k : Nat) (ps : List (Nat × Value)), k ≤ n ∧ z = .int .i64 (k : Int) ∧ Hid (wr.ownsRow w.heap.size 82 2 u k (ps.flatMap cellsB) ∧ RawB w ps (bs.take k) ∧ Below w.heap.size w wr)) (fun _ z _ => n - (intOf z).toNat)
  case atStart => exact ⟨0, [], Nat.zero_le _, rfl, Lib.hid ⟨World.ownsRow_nil .., ⟨by simp, fun i b h => by simp at h⟩, Below.refl _ _⟩⟩
  case round =>
    obtain ⟨k, ps, hk, rfl, HK⟩ := hrel
    by_cases hlt : k < n
    · have hlt2 : (k : Int) < n := by omega
      obtain ⟨⟨seq, ops⟩, hx⟩ : ∃ x, bs[k]? = some x := ⟨_, List.getElem?_eq_getElem (by have := HN.out; omega)⟩
      obtain ⟨g, off, vi, hga, hg, c0, c1, hs⟩ := HA.out.below HK.out.2.2 k _ hx
      obtain ⟨g', off', vi', hga', _, d0, d1, hs'⟩ := HA.out k _ hx
      subst hga
      simp only [Option.some.injEq, Addr.mk.injEq, and_true] at hga'
      obtain ⟨rfl, rfl⟩ := hga'
      obtain ⟨a3, c3, rfl⟩ := seesO_slice hs
      dsimp only at c0 c1 d0 d1 hs hs'
      have HSW : Hid (Bn.SeesO w (.slice a3 ops.length c3) ops) := by
        have e := (HK.out.2.2.cell (p := ⟨g, off + k * 2 + 1, none⟩) (World.block_lt_of_cell? w _ d1)).trans d1
        rw [c1] at e
        simp only [Option.some.injEq] at e
        rw [e]; exact Lib.hid hs'
      have HT : Hid (bs.take (k + 1) = bs.take k ++ [(seq, ops)]) := Lib.hid (by rw [List.take_add_one, hx]; rfl)
      have HGI := Lib.hid (fun W => Bn.given_any seq a3 ops.length c3 W)
      obtain ⟨ol, hle⟩ : ∃ ol, ol = ops.length := ⟨_, rfl⟩
      rw [← hle] at c1 HGI HSW
      clear hs hs' hle hx hg d0 d1
      go_wp2_with fail
      refine (HGI.out _).mono ?_
      rintro e w2 ⟨rfl, hb2⟩
      have HB2 := Lib.hid hb2
      have hraw := ownsRow_below HK.out.1 hb2
      have hb0 := Below.next HK.out.2.2 hb2
      have hsz := hb0.size
      clear hb2 c0 c1
      go_wp2_with (at_builtin; go_must (refine wpList_append_own _ rfl _ _ 49 rfl w.heap.size 82 i0 _ 2 32 Tryz.underlying49 hi hz0 hz1 hz2 rfl (by decide) _ _ _ rfl (hraw.alloc _) ⟨w2.heap.size, 0, none⟩ 1 1 [_, _] rfl rfl (World.news_of_block (cs := #[_, _]) (fr := (0, 0)) (heap_alloc_new w2 _)) ?c2 ?c3 ?c4 ?c5 ?_))
      case c2 => intro u hu; simp at hu; rcases hu with hu | hu <;> subst hu <;> rfl
      case c3 => unfold maxLen; omega
      case c4 => omega
      case c5 => simp; omega
      intro v6 w6 hown6 hgrow6 _
      have hb6 : Below w.heap.size w w6 := (hb0.alloc hsz _).grown hgrow6 (by simp; omega) (fun q hq => (hraw.lt q hq).1)
      have hr6 : w6.ownsRow w.heap.size 82 2 v6 (k + 1) ((ps ++ [(seq, Value.slice a3 ol c3)]).flatMap cellsB) := by
        rw [List.flatMap_append, List.flatMap_singleton]
        exact hown6
      have HR6 := Lib.hid (And.intro hr6 (And.intro (HK.out.2.1.snoc (p := (seq, Value.slice a3 ol c3)) (b := (seq, ops)) rfl HSW.out) hb6))
      clear hr6 hb6 hown6 hgrow6 hraw hb0 hsz
      go_wp2_with fail
      go_roundw
      case rel => exact ⟨k + 1, _, by omega, by go_num, Lib.hid ⟨HR6.out.1, by rw [HT.out]; exact HR6.out.2.1, HR6.out.2.2⟩⟩
      case measure => simp [intOf]; omega
    · obtain rfl : k = n := by omega
      have hlt2 : ¬ ((k : Nat) : Int) < (k : Nat) := by omega
      have HT : Hid (bs.take k = bs) := Lib.hid (by rw [← HN.out, List.take_length])
      go_wp2_with fail
      go_ret
      refine ⟨_, rfl, ps, ?_, ?_, HK.out.2.2⟩
      · rw [HN.out]; exact HK.out.1
      · have := HK.out.2.1
        rw [HT.out] at this
        exact this

end Go.Proofs.YtfeconankopjmaaGreatDoor
