/- Texts on the program's own functions, several in one: WlAw. -/
import Derived.Test.YtfeconankopjmaaGreatDoorPk24
import Derived.Test.YtfeconankopjmaaGreatDoorPk28
import Derived.Test.YtfeconankopjmaaGreatDoorPk29

/- The walks of layer 7's small and awake. -/
namespace Go.Proofs.YtfeconankopjmaaGreatDoor
set_option linter.unusedVariables false
open Go.RowKit Go.Maps
open Dk (Dir Chg Disk File Str)

theorem seesO_one {w : World} {B : Nat} {k v : ByteArray} {f : Bool} {t : TypeId} (h : w.heap[B]? = some (.cells #[.string k, .string v, .bool f] t (0, 0))) : Bn.SeesO w (.slice (some ⟨B, 0, none⟩) 1 1) [⟨k, v, f⟩] := by
  refine Or.inr ⟨B, 0, 1, rfl, heap_lt h, fun i hi => ?_⟩
  match i, hi with
  | 0, _ =>
    refine ⟨?_, ?_, ?_⟩ <;> (rw [cell_of h]; rfl)
/-- A batch of a row of batches. -/
theorem ownsB_get {w : World} {base : Nat} {a : Option Addr} {n c i : Nat} {bs : List Wl.Bat} {b : Wl.Bat} (h : OwnsB w base (.slice a n c) bs) (hb : bs[i]? = some b) :
    ∃ g v, a = some ⟨g, 0, none⟩ ∧ w.cell? ⟨g, i * 2, none⟩ = some (.int .u64 (b.1 : Nat)) ∧ w.cell? ⟨g, i * 2 + 1, none⟩ = some v ∧ Bn.OwnsO w base v b.2 := by
  obtain ⟨ps, hrow, hare⟩ := h
  obtain ⟨v, hp, ho⟩ := hare.at hb
  obtain ⟨q0, q1⟩ := cellsB_at ps i _ hp
  have hc := fun (g : Nat) (hv : (Value.slice a n c).ownBlock = some g) => hrow.cells (g := g) hv
  have hi : i < bs.length := (List.getElem?_eq_some_iff.1 hb).1
  rcases hrow.2 with ⟨_, h0⟩ | ⟨g, cap, cur, hv, _⟩
  · omega
  · simp only [Value.slice.injEq] at hv
    obtain ⟨rfl, _, _⟩ := hv
    have e : ∀ j, (⟨g, 0, none⟩ : Addr).add j = ⟨g, j, none⟩ := fun j => by unfold Addr.add; split <;> simp_all
    have c0 := hc g rfl _ _ q0
    have c1 := hc g rfl _ _ q1
    rw [e] at c0 c1
    exact ⟨g, v, rfl, c0, c1, ho⟩
/-- An operation of a row of operations. -/
theorem ownsO_get {w : World} {base : Nat} {v : Value} {i : Nat} {os : List Bn.Ob} (h : Bn.OwnsO w base v os) (hi : i < os.length) :
    ∃ g c, v = .slice (some ⟨g, 0, none⟩) os.length c ∧ w.cell? ⟨g, i * 3, none⟩ = some (.string (os.getD i Bn.obd).key) ∧ w.cell? ⟨g, i * 3 + 1, none⟩ = some (.string (os.getD i Bn.obd).val) ∧ w.cell? ⟨g, i * 3 + 2, none⟩ = some (.bool (os.getD i Bn.obd).gone) := by
  have hc := fun (g : Nat) (hv : v.ownBlock = some g) => World.ownsRow.cells h (g := g) hv
  obtain ⟨q0, q1, q2⟩ := Bn.cellsO_at os i hi
  rcases h.2 with ⟨_, h0⟩ | ⟨g, cap, cur, rfl, _⟩
  · omega
  · have e : ∀ j, (⟨g, 0, none⟩ : Addr).add j = ⟨g, j, none⟩ := fun j => by unfold Addr.add; split <;> simp_all
    have c0 := hc g rfl _ _ q0
    have c1 := hc g rfl _ _ q1
    have c2 := hc g rfl _ _ q2
    rw [e] at c0 c1 c2
    exact ⟨g, cap, rfl, c0, c1, c2⟩
set_option maxHeartbeats 2000000 in
set_option maxRecDepth 100000 in
theorem small_any (seq : Nat) (w : World) : Calls Tryz.prog 11 #[.int .u64 seq] w fun e w' => ∃ a2, e = .returned (Bn.batV seq a2 1 1) ∧ Bn.SeesO w' (.slice a2 1 1) [Wl.opA] ∧ Below w.heap.size w w' := by
  go_enter Tryz.func11, Tryz.ntmps11
  go_wp2_with fail
  refine bodyPost_ret (v := Bn.batV seq (some ⟨w.heap.size + 1, 0, none⟩) 1 1) (by simp [results, Tryz.results11, go_sem, Bn.batV]) rfl ⟨_, rfl, seesO_one (t := 42) ?_, Below.next_alloc ((Below.refl _ _).alloc (Nat.le_refl _) _) _⟩
  have := heap_alloc_new (w.alloc (.cells #[.int .u64 (seq : Nat), .slice (some ⟨w.heap.size + 1, 0, none⟩) 1 1] 32)) (.cells #[.string ⟨#[97]⟩, .string ⟨#[120]⟩, .bool false] 42)
  rw [World.size_alloc] at this
  exact this

set_option maxHeartbeats 8000000 in
set_option maxRecDepth 100000 in
theorem wawake_any (w : World) (K : Knows w.heap.size w) : Calls Tryz.prog 17 #[] w (Gives (.bool true) w) := by
  have HK := Lib.hid (fun W (hb : Below w.heap.size w W) => K.next hb)
  have HUP : Hid (Rise (Wl.nums Wl.s6.now) ∧ (Wl.nums Wl.s6.now).length ≤ 12) := Lib.hid (by rw [Wl.r3]; exact ⟨trivial, by decide⟩)
  clear K
  go_enter Tryz.func17, Tryz.ntmps17
  go_wp2_with fail
  refine (new_any _ _).mono ?_
  rintro e w0 ⟨L0, rfl, hh, hb, ho⟩
  have D0 : Hid (Disc w0 w.heap.size L0 Wl.s0 0 0) := Lib.hid ⟨hh, Dk.good_fresh 1048576, ho, hb.size⟩
  have B0 := Lib.hid hb
  obtain ⟨d, hd⟩ : ∃ d, d = L0.d := ⟨_, rfl⟩
  rw [← hd]
  have HD0 : Hid (L0.d = d) := hd.symm
  clear hh hb ho hd
  have hc := begin_disc D0.out (by decide) (by decide) 3 (by decide) (HK.out _ B0.out)
  rw [HD0.out] at hc
  have HC := Lib.hid hc; clear hc
  go_wp2_with fail
  refine HC.out.mono ?_
  rintro e w1 ⟨p, L1, rfl, hld, hD, hB, hlv, ⟨_, g, rfl, hl⟩ | ⟨h, _⟩⟩
  case inr => exact absurd Wl.r0 h
  rw [show errV (Wl.beg Wl.s0 3).1 = _ from congrArg errV Wl.r0]
  unfold errV
  have Vg1 : Hid (Live w1 L1 g d 3) := Lib.hid hl
  clear hl
  have D1 : Hid (Disc w1 w.heap.size L1 Wl.s1 2 0) := Lib.hid hD
  have HD1 : Hid (L1.d = d) := Lib.hid hld
  have B1 : Hid (Below w.heap.size w w1) := Lib.hid (B0.out.trans hB)
  clear hld hD hB hlv HC
  clear D0 HD0 B0
  have HN : Hid (Calls Tryz.prog 14 #[.pointer (some ⟨g, 0, none⟩)] w1 fun e w' => e = .returned (.int .u64 3) ∧ w' = w1) := Lib.hid (N_any w1 g d 3 Vg1.out.at')
  go_wp2_with fail
  refine HN.out.mono ?_
  rintro e wz ⟨rfl, hw⟩
  subst wz
  clear HN
  go_wp2_with fail
  refine (small_any 1 _).mono ?_
  rintro e w2 ⟨a2, rfl, hS, hb⟩
  have HS2 := Lib.hid hS
  have D2 := Lib.hid (D1.out.below hb)
  have HD2 := HD1
  have B2 := Lib.hid (Below.next B1.out hb)
  have Vg2 := Lib.hid (Vg1.out.below hb)
  clear D1 HD1 B1 Vg1
  clear hb hS
  have hv := Vg2.out
  rw [← HD2.out] at hv
  have hc := add_disc D2.out (by decide) (by decide) hv (by decide) (HK.out _ B2.out) 1 a2 1 1 [Wl.opA] HS2.out (by decide)
  have HC := Lib.hid hc; clear hc
  clear hv
  go_wp2_with fail
  refine HC.out.mono ?_
  rintro e w3 ⟨rfl, L3, hld, hD, hB, hlv⟩
  rw [show errV (Wl.add Wl.s1 3 (1, [Wl.opA])).1 = _ from congrArg errV Wl.r1]
  unfold errV
  have hld := hld.trans HD2.out
  have D3 : Hid (Disc w3 w.heap.size L3 Wl.s2 4 14000) := Lib.hid hD
  have HD3 : Hid (L3.d = d) := Lib.hid hld
  have B3 : Hid (Below w.heap.size w w3) := Lib.hid (B2.out.trans hB)
  have Vg3 := Lib.hid (hlv _ _ _ Vg2.out)
  clear hld hD hB hlv HC
  clear D2 HD2 B2 Vg2
  have hc := fuse_any _ D3.out.holds 2
  rw [HD3.out] at hc
  have HC := Lib.hid hc; clear hc
  go_wp2_with fail
  refine HC.out.mono ?_
  rintro e w4 ⟨rfl, hg⟩
  obtain ⟨L4, hld, hD, hB, hlv⟩ := D3.out.onward hg (n' := 4) (m' := 14000) (D3.out.good.light 2 (by decide))
  have hld := hld.trans HD3.out
  clear hg
  have D4 : Hid (Disc w4 w.heap.size L4 Wl.s3 4 14000) := Lib.hid hD
  have HD4 : Hid (L4.d = d) := Lib.hid hld
  have B4 : Hid (Below w.heap.size w w4) := Lib.hid (B3.out.trans hB)
  have Vg4 := Lib.hid (hlv _ _ _ Vg3.out)
  clear hld hD hB hlv HC
  clear D3 HD3 B3 Vg3
  go_wp2_with fail
  refine (small_any 2 _).mono ?_
  rintro e w5 ⟨a5, rfl, hS, hb⟩
  have HS5 := Lib.hid hS
  have D5 := Lib.hid (D4.out.below hb)
  have HD5 := HD4
  have B5 := Lib.hid (Below.next B4.out hb)
  have Vg5 := Lib.hid (Vg4.out.below hb)
  clear D4 HD4 B4 Vg4
  clear hb hS
  have hv := Vg5.out
  rw [← HD5.out] at hv
  have hc := add_disc D5.out (by decide) (by decide) hv (by decide) (HK.out _ B5.out) 2 a5 1 1 [Wl.opA] HS5.out (by decide)
  have HC := Lib.hid hc; clear hc
  clear hv
  go_wp2_with fail
  refine HC.out.mono ?_
  rintro e w6 ⟨rfl, L6, hld, hD, hB, hlv⟩
  rw [show errV (Wl.add Wl.s3 3 (2, [Wl.opA])).1 = _ from congrArg errV Wl.r2]
  unfold errV
  have hld := hld.trans HD5.out
  have D6 : Hid (Disc w6 w.heap.size L6 Wl.s4 6 28000) := Lib.hid hD
  have HD6 : Hid (L6.d = d) := Lib.hid hld
  have B6 : Hid (Below w.heap.size w w6) := Lib.hid (B5.out.trans hB)
  have Vg6 := Lib.hid (hlv _ _ _ Vg5.out)
  clear hld hD hB hlv HC
  clear D5 HD5 B5 Vg5
  have Da : Hid (Disc (w6.alloc (.cells #[.int .i64 31] 3)) w.heap.size L6 Wl.s4 6 28000) := Lib.hid (D6.out.below ((Below.refl _ _).alloc (Nat.le_refl _) _))
  have Ba : Hid (Below w.heap.size w (w6.alloc (.cells #[.int .i64 31] 3))) := Lib.hid (B6.out.alloc D6.out.lo _)
  have hch : Choices (w6.alloc (.cells #[.int .i64 31] 3)) L6 (.slice (some ⟨w6.heap.size, 0, none⟩) 1 1) (.slice none 0 0) ⟨0, [31], []⟩ := by
    refine ⟨Or.inr ⟨w6.heap.size, 0, 1, rfl, by rw [World.size_alloc]; omega, fun i x hi => ?_⟩, Or.inl ⟨rfl, none, 0, rfl⟩, fun _ b hb ho => ?_, fun _ b hb => by simp [Value.ownBlock] at hb, fun _ b hb => ?_, fun _ b hb => by simp [Value.ownBlock] at hb, by simp, by simp, fun q hq => by simp at hq⟩
    · cases i with
      | zero =>
        simp only [List.getElem?_cons_zero, Option.some.injEq] at hi
        subst hi
        rw [cell_of (heap_alloc_new w6 _)]
        rfl
      | succ i => simp at hi
    · have h1 := D6.out.holds.own_lt ho
      have h2 : w6.heap.size = b := by simpa [Value.ownBlock] using hb
      omega
    · have h2 : w6.heap.size = b := by simpa [Value.ownBlock] using hb
      rw [World.size_alloc]; omega
  have hc := crash_any _ Da.out.holds (fits_of Da.out.good (by decide) (by decide)) Da.out.good.cans (sizes_of Da.out.good) _ _ ⟨0, [31], []⟩ hch (crash_fits Da.out.good (by decide) (by decide) 0).1 (crash_fits Da.out.good (by decide) (by decide) 0).2
  rw [HD6.out] at hc
  have HC := Lib.hid hc; clear hc hch
  go_wp2_with fail
  refine HC.out.mono ?_
  rintro e w7 ⟨rfl, hg⟩
  obtain ⟨L7, hld, hD, hB, hlv⟩ := Da.out.onward hg (n' := 7) (m' := 28000) (Da.out.good.crash _)
  have hld := hld.trans HD6.out
  clear hg
  have B6 := Ba
  have Vg6 := Lib.hid (Vg6.out.below ((Below.refl _ _).alloc (Nat.le_refl _) (.cells #[.int .i64 31] 3)))
  have D7 : Hid (Disc w7 w.heap.size L7 Wl.s5 7 28000) := Lib.hid hD
  have HD7 : Hid (L7.d = d) := Lib.hid hld
  have B7 : Hid (Below w.heap.size w w7) := Lib.hid (B6.out.trans hB)
  have Vg7 := Lib.hid (hlv _ _ _ Vg6.out)
  clear hld hD hB hlv HC
  clear D6 HD6 B6 Vg6
  clear Da Ba
  have hc := start_any _ D7.out.holds
  rw [HD7.out] at hc
  have HC := Lib.hid hc; clear hc
  go_wp2_with fail
  refine HC.out.mono ?_
  rintro e w8 ⟨rfl, hg⟩
  obtain ⟨L8, hld, hD, hB, hlv⟩ := D7.out.onward hg (n' := 7) (m' := 28000) (D7.out.good.start)
  have hld := hld.trans HD7.out
  clear hg
  have D8 : Hid (Disc w8 w.heap.size L8 Wl.s6 7 28000) := Lib.hid hD
  have HD8 : Hid (L8.d = d) := Lib.hid hld
  have B8 : Hid (Below w.heap.size w w8) := Lib.hid (B7.out.trans hB)
  have Vg8 := Lib.hid (hlv _ _ _ Vg7.out)
  clear hld hD hB hlv HC
  clear D7 HD7 B7 Vg7
  have hc := replay_any w8 D8.out.holds D8.out.good (by decide) (by decide) (HK.out _ B8.out) D8.out.lo HUP.out.1 HUP.out.2 0 Wl.r4
  rw [HD8.out, Wl.r5] at hc
  have HC := Lib.hid hc; clear hc
  go_wp2_with fail
  refine HC.out.mono ?_
  rintro e w9 ⟨v, rfl, hob, hb⟩
  obtain ⟨am, cm, rfl⟩ := hob.slice
  have OBm9 := Lib.hid (hob.mono D8.out.lo)
  have D9 := Lib.hid (D8.out.below hb)
  have HD9 := HD8
  have B9 := Lib.hid (Below.next B8.out hb)
  have Vg9 := Lib.hid (Vg8.out.below hb)
  clear D8 HD8 B8 Vg8
  clear hb hob HC
  have hc := logs_any w9 D9.out.holds D9.out.good (by decide) (by decide) (HK.out _ B9.out) D9.out.lo HUP.out.1 HUP.out.2
  rw [HD9.out, Wl.r3] at hc
  have HC := Lib.hid hc; clear hc
  go_wp2_with fail
  refine HC.out.mono ?_
  rintro e w10 ⟨v, rfl, hrow, hb⟩
  obtain ⟨an, cn, rfl⟩ := row_shape hrow
  have NRn10 := Lib.hid (ownsRow_mono hrow D9.out.lo)
  have D10 := Lib.hid (D9.out.below hb)
  have HD10 := HD9
  have B10 := Lib.hid (Below.next B9.out hb)
  have Vg10 := Lib.hid (Vg9.out.below hb)
  have OBm10 := Lib.hid (OwnsB.below OBm9.out hb)
  clear D9 HD9 B9 Vg9 OBm9
  clear hb hrow HC
  obtain ⟨gm, vm, rfl, m0, m1, hom⟩ := ownsB_get (i := 0) OBm10.out rfl
  obtain ⟨go, co, rfl, o0, o1, o2⟩ := ownsO_get (i := 0) hom (by decide)
  have NN := NRn10.out
  obtain ⟨gn, hgn, n0⟩ := row_at NN (k := 0) (v := .int .u64 3) rfl (by decide)
  obtain rfl := hgn
  replace m0 : w10.cell? ⟨gm, 0, none⟩ = some (.int .u64 1) := m0
  replace m1 : w10.cell? ⟨gm, 1, none⟩ = some (.slice (some ⟨go, 0, none⟩) 1 co) := m1
  replace o1 : w10.cell? ⟨go, 1, none⟩ = some (.string ⟨#[120]⟩) := o1
  clear NN hom o0 o2
  go_wp2_with fail
  go_ret
  exact ⟨rfl, B10.out⟩

end Go.Proofs.YtfeconankopjmaaGreatDoor
