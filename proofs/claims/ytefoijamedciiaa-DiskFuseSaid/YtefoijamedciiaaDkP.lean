/- The walk of the statements' awake over disks. -/
import Derived.Test.YtefoijamedciiaaDkGood
import Derived.Test.YtefoijamedciiaaDkO
import Derived.Test.YtefoijamedciiaaDkF
namespace Go.Proofs.Ytefoijamedciiaa
open Go.RowKit Go.Maps
open Dk (Dir Chg Disk File Str)

theorem fits_of {n m : Nat} {S : Disk} (G : Dk.Good n m S) (hn : n ≤ 1048576) (hm : m ≤ 1048576) : Fits S := by
  have h : n * m ≤ 1048576 * 1048576 := Nat.mul_le_mul hn hm
  have h1 := G.least
  have h2 := G.most
  have h3 := G.nowLen
  have h4 := G.count
  exact ⟨G.fuse, by omega, by omega, by omega, G.room0, G.room, by omega, by omega, fun i => by have := G.dat i; omega⟩
theorem crash_fits {n m : Nat} {S : Disk} (G : Dk.Good n m S) (hn : n ≤ 1048576) (hm : m ≤ 1048576) (k : Int) :
    (Dk.runs (S.changes.take (Dk.held k S.changes.length).toNat) S.lasting).length ≤ 1099511627776 ∧ ∃ B, (∀ i, (S.file i).data.length ≤ B) ∧ (Dk.runs (S.changes.take (Dk.held k S.changes.length).toNat) S.lasting).length * B ≤ 1152921504606846976 := by
  have h1 := Dk.length_runs (S.changes.take (Dk.held k S.changes.length).toNat) S.lasting
  have h4 := G.count
  rw [List.length_take] at h1
  have h5 : (Dk.runs (S.changes.take (Dk.held k S.changes.length).toNat) S.lasting).length ≤ 1048576 := by omega
  have h : (Dk.runs (S.changes.take (Dk.held k S.changes.length).toNat) S.lasting).length * m ≤ 1048576 * 1048576 := Nat.mul_le_mul h5 hm
  exact ⟨by omega, m, G.dat, by omega⟩
theorem names_of {n m : Nat} {S : Disk} (G : Dk.Good n m S) : ∀ p ∈ S.now, p.1 ≠ [] := fun p hp => (G.nowNames p hp).1
theorem sizes_of {n m : Nat} {S : Disk} (G : Dk.Good n m S) : ∀ c ∈ S.changes, c.src.length ≤ maxLen ∧ c.dst.length ≤ maxLen := fun c hc => by
  have h := G.chgs c hc
  have aux : ∀ s : Str, (s = [] ∨ Dk.Nm s) → s.length ≤ maxLen := fun s hs => by
    unfold maxLen
    rcases hs with rfl | hs
    · simp
    · have := hs.2; omega
  exact ⟨aux _ h.1, aux _ h.2⟩

/-- A disk of the call's own: its blocks lie from a base on. -/
structure Disc (w : World) (base : Nat) (L : Lay) (S : Disk) (n m : Nat) : Prop where
  holds : Holds w L S
  good : Dk.Good n m S
  own : ∀ b, Own L b → base ≤ b
  lo : base ≤ w.heap.size
theorem Disc.goes {w w' : World} {base : Nat} {L : Lay} {S S' : Disk} {n m n' m' : Nat} (h : Disc w base L S n m) (hg : Goes L w S' w') (G : Dk.Good n' m' S') : ∃ L', L'.d = L.d ∧ Disc w' base L' S' n' m' ∧ Below base w w' := by
  obtain ⟨L', hld, hh, ht, ho⟩ := hg
  refine ⟨L', hld, ⟨hh, G, fun b hb => ?_, Nat.le_trans h.lo ht.size⟩, ht.to_below h.lo h.own⟩
  rcases ho b hb with h1 | h1
  · exact h.own b h1
  · exact Nat.le_trans h.lo h1
theorem Disc.below {w w' : World} {base : Nat} {L : Lay} {S : Disk} {n m : Nat} (h : Disc w base L S n m) (hb : Below w.heap.size w w') : Disc w' base L S n m :=
  ⟨h.holds.below hb, h.good, h.own, Nat.le_trans h.lo hb.size⟩
theorem Disc.mono {w : World} {base : Nat} {L : Lay} {S : Disk} {n m n' m' : Nat} (h : Disc w base L S n m) (hn : n ≤ n') (hm : m ≤ m') : Disc w base L S n' m' := ⟨h.holds, h.good.mono hn hm, h.own, h.lo⟩

def aw0 : Disk := Dk.fresh 10
def aw1 : Disk := (aw0.create [97]).2
def aw2 : Disk := (aw1.append [97] [49, 50, 51, 52, 53]).2
def aw3 : Disk := (aw2.sync [97]).2
def aw4 : Disk := aw3.dirSync.2
def aw5 : Disk := (aw4.append [97] [54, 55]).2
def aw6 : Disk := (aw5.append [97] [56, 57, 48, 49]).2
def aw7 : Disk := aw6.crash ⟨0, [1], []⟩
def aw8 : Disk := aw7.start
theorem aw_results : errV (aw0.create [97]).1 = .int .i64 0 ∧ errV (aw1.append [97] [49, 50, 51, 52, 53]).1 = .int .i64 0 ∧ errV (aw2.sync [97]).1 = .int .i64 0 ∧ errV aw3.dirSync.1 = .int .i64 0 ∧ errV (aw4.append [97] [54, 55]).1 = .int .i64 0 ∧ errV (aw5.append [97] [56, 57, 48, 49]).1 = .int .i64 6 ∧
    readV aw7 ⟨#[97]⟩ = .tuple #[.string ⟨#[]⟩, .int .i64 7] ∧ readV aw8 ⟨#[97]⟩ = .tuple #[.string ⟨#[49, 50, 51, 52, 53, 54]⟩, .int .i64 0] := by
  refine ⟨?_, ?_, ?_, ?_, ?_, ?_, ?_, ?_⟩ <;> kernel_rfl

set_option maxHeartbeats 8000000 in
set_option maxRecDepth 100000 in
theorem awake_any (w : World) : Calls Try.prog 8 #[] w (Gives (.bool true) w) := by
  obtain ⟨R1, R2, R3, R4, R5, R6, R7, R8⟩ := aw_results
  have HR1 := Lib.hid R1; have HR2 := Lib.hid R2; have HR3 := Lib.hid R3; have HR4 := Lib.hid R4; have HR5 := Lib.hid R5; have HR6 := Lib.hid R6; have HR7 := Lib.hid R7; have HR8 := Lib.hid R8
  clear R1 R2 R3 R4 R5 R6 R7 R8
  go_enter Try.func8, Try.ntmps8
  go_wp2_with fail
  refine (new_any _ _).mono ?_
  rintro e w0 ⟨L0, rfl, hh, hb, ho⟩
  have D0 : Hid (Disc w0 w.heap.size L0 aw0 0 0) := Lib.hid ⟨hh, Dk.good_fresh 10, ho, hb.size⟩
  have B0 := Lib.hid hb
  obtain ⟨d, hd⟩ : ∃ d, d = L0.d := ⟨_, rfl⟩
  rw [← hd]
  have HD0 : Hid (L0.d = d) := hd.symm
  clear hh hb ho hd
  have hc1 := create_any _ D0.out.holds (fits_of D0.out.good (by decide) (by decide)) ⟨#[97]⟩ (by decide)
  rw [HD0.out] at hc1
  have HC1 := Lib.hid hc1; clear hc1
  go_wp2_with fail
  refine HC1.out.mono ?_
  rintro e w1 ⟨rfl, hg⟩
  obtain ⟨L1, hld, hD, hB⟩ := D0.out.goes hg (n' := 1) (m' := 0) (D0.out.good.create [97])
  rw [show (Ending.returned (errV _)) = _ from congrArg Ending.returned HR1.out]
  have D1 : Hid (Disc w1 w.heap.size L1 aw1 1 0) := Lib.hid hD
  have HD1 : Hid (L1.d = d) := Lib.hid (hld.trans HD0.out)
  have B1 : Hid (Below w.heap.size w w1) := Lib.hid (B0.out.trans hB)
  clear hg hld hD hB HC1 D0 HD0 B0
  have hc2 := append_any _ D1.out.holds (fits_of D1.out.good (by decide) (by decide)) ⟨#[97]⟩ ⟨#[49, 50, 51, 52, 53]⟩ (by decide) (by decide)
  rw [HD1.out] at hc2
  have HC2 := Lib.hid hc2; clear hc2
  go_wp2_with fail
  refine HC2.out.mono ?_
  rintro e w2 ⟨rfl, hg⟩
  obtain ⟨L2, hld, hD, hB⟩ := D1.out.goes hg (n' := 2) (m' := 5) (D1.out.good.append [97] [49, 50, 51, 52, 53])
  rw [show (Ending.returned (errV _)) = _ from congrArg Ending.returned HR2.out]
  have D2 : Hid (Disc w2 w.heap.size L2 aw2 2 5) := Lib.hid hD
  have HD2 : Hid (L2.d = d) := Lib.hid (hld.trans HD1.out)
  have B2 : Hid (Below w.heap.size w w2) := Lib.hid (B1.out.trans hB)
  clear hg hld hD hB HC2 D1 HD1 B1
  have hc3 := sync_any _ D2.out.holds (fits_of D2.out.good (by decide) (by decide)) ⟨#[97]⟩ (by decide)
  rw [HD2.out] at hc3
  have HC3 := Lib.hid hc3; clear hc3
  go_wp2_with fail
  refine HC3.out.mono ?_
  rintro e w3 ⟨rfl, hg⟩
  obtain ⟨L3, hld, hD, hB⟩ := D2.out.goes hg (n' := 3) (m' := 5) (D2.out.good.sync [97])
  rw [show (Ending.returned (errV _)) = _ from congrArg Ending.returned HR3.out]
  have D3 : Hid (Disc w3 w.heap.size L3 aw3 3 5) := Lib.hid hD
  have HD3 : Hid (L3.d = d) := Lib.hid (hld.trans HD2.out)
  have B3 : Hid (Below w.heap.size w w3) := Lib.hid (B2.out.trans hB)
  clear hg hld hD hB HC3 D2 HD2 B2
  have hc4 := dirSync_any _ D3.out.holds (fits_of D3.out.good (by decide) (by decide)) D3.out.good.cans (sizes_of D3.out.good)
  rw [HD3.out] at hc4
  have HC4 := Lib.hid hc4; clear hc4
  go_wp2_with fail
  refine HC4.out.mono ?_
  rintro e w4 ⟨rfl, hg⟩
  obtain ⟨L4, hld, hD, hB⟩ := D3.out.goes hg (n' := 4) (m' := 5) (D3.out.good.dirSync)
  rw [show (Ending.returned (errV _)) = _ from congrArg Ending.returned HR4.out]
  have D4 : Hid (Disc w4 w.heap.size L4 aw4 4 5) := Lib.hid hD
  have HD4 : Hid (L4.d = d) := Lib.hid (hld.trans HD3.out)
  have B4 : Hid (Below w.heap.size w w4) := Lib.hid (B3.out.trans hB)
  clear hg hld hD hB HC4 D3 HD3 B3
  have hc5 := append_any _ D4.out.holds (fits_of D4.out.good (by decide) (by decide)) ⟨#[97]⟩ ⟨#[54, 55]⟩ (by decide) (by decide)
  rw [HD4.out] at hc5
  have HC5 := Lib.hid hc5; clear hc5
  go_wp2_with fail
  refine HC5.out.mono ?_
  rintro e w5 ⟨rfl, hg⟩
  obtain ⟨L5, hld, hD, hB⟩ := D4.out.goes hg (n' := 5) (m' := 7) (D4.out.good.append [97] [54, 55])
  rw [show (Ending.returned (errV _)) = _ from congrArg Ending.returned HR5.out]
  have D5 : Hid (Disc w5 w.heap.size L5 aw5 5 7) := Lib.hid hD
  have HD5 : Hid (L5.d = d) := Lib.hid (hld.trans HD4.out)
  have B5 : Hid (Below w.heap.size w w5) := Lib.hid (B4.out.trans hB)
  clear hg hld hD hB HC5 D4 HD4 B4
  have hc6 := append_any _ D5.out.holds (fits_of D5.out.good (by decide) (by decide)) ⟨#[97]⟩ ⟨#[56, 57, 48, 49]⟩ (by decide) (by decide)
  rw [HD5.out] at hc6
  have HC6 := Lib.hid hc6; clear hc6
  go_wp2_with fail
  refine HC6.out.mono ?_
  rintro e w6 ⟨rfl, hg⟩
  obtain ⟨L6, hld, hD, hB⟩ := D5.out.goes hg (n' := 6) (m' := 11) (D5.out.good.append [97] [56, 57, 48, 49])
  rw [show (Ending.returned (errV _)) = _ from congrArg Ending.returned HR6.out]
  have D6 : Hid (Disc w6 w.heap.size L6 aw6 6 11) := Lib.hid hD
  have HD6 : Hid (L6.d = d) := Lib.hid (hld.trans HD5.out)
  have B6 : Hid (Below w.heap.size w w6) := Lib.hid (B5.out.trans hB)
  clear hg hld hD hB HC6 D5 HD5 B5
  have D6a : Hid (Disc (w6.alloc (.cells #[.int .i64 1] 3)) w.heap.size L6 aw6 6 11) := Lib.hid (D6.out.below ((Below.refl _ _).alloc (Nat.le_refl _) _))
  have B6a : Hid (Below w.heap.size w (w6.alloc (.cells #[.int .i64 1] 3))) := Lib.hid (B6.out.alloc D6.out.lo _)
  have hch : Choices (w6.alloc (.cells #[.int .i64 1] 3)) L6 (.slice (some ⟨w6.heap.size, 0, none⟩) 1 1) (.slice none 0 0) ⟨0, [1], []⟩ := by
    refine ⟨Or.inr ⟨w6.heap.size, 0, 1, rfl, by rw [World.size_alloc]; omega, fun i x hi => ?_⟩, Or.inl ⟨rfl, none, 0, rfl⟩, fun _ b hb ho => ?_, fun _ b hb => by simp [Value.ownBlock] at hb, fun _ b hb => ?_, fun _ b hb => by simp [Value.ownBlock] at hb, by simp, by simp, fun q hq => by simp at hq⟩
    · cases i with
      | zero =>
        simp only [List.getElem?_cons_zero, Option.some.injEq] at hi
        subst hi
        rw [cell_of (heap_alloc_new w6 _)]
        rfl
      | succ i => simp at hi
    · have h1 := D6.out.holds.own_lt ho
      have h2 : w6.heap.size = b := by simpa [Value.ownBlock] using hb
      omega
    · have h2 : w6.heap.size = b := by simpa [Value.ownBlock] using hb
      rw [World.size_alloc]; omega
  have hc7 := crash_any _ D6a.out.holds (fits_of D6a.out.good (by decide) (by decide)) D6a.out.good.cans (sizes_of D6a.out.good) _ _ ⟨0, [1], []⟩ hch (crash_fits D6a.out.good (by decide) (by decide) 0).1 (crash_fits D6a.out.good (by decide) (by decide) 0).2
  rw [HD6.out] at hc7
  have HC7 := Lib.hid hc7; clear hc7 hch
  go_wp2_with fail
  refine HC7.out.mono ?_
  rintro e w7 ⟨rfl, hg⟩
  obtain ⟨L7, hld, hD, hB⟩ := D6a.out.goes hg (n' := 7) (m' := 11) (D6a.out.good.crash _)
  have D7 : Hid (Disc w7 w.heap.size L7 aw7 7 11) := Lib.hid hD
  have HD7 : Hid (L7.d = d) := Lib.hid (hld.trans HD6.out)
  have B7 : Hid (Below w.heap.size w w7) := Lib.hid (B6a.out.trans hB)
  clear hg hld hD hB HC7 D6 D6a HD6 B6 B6a
  have hr7 := read_any w7 D7.out.holds ⟨#[97]⟩ (by decide)
  rw [HD7.out, HR7.out] at hr7
  have HC := Lib.hid hr7; clear hr7
  go_wp2_with fail
  refine HC.out.mono ?_
  rintro e w8 ⟨rfl, rfl⟩
  clear HC
  have hs8 := start_any w8 D7.out.holds
  rw [HD7.out] at hs8
  have HC := Lib.hid hs8; clear hs8
  go_wp2_with fail
  refine HC.out.mono ?_
  rintro e w9 ⟨rfl, hg⟩
  obtain ⟨L9, hld, hD, hB⟩ := D7.out.goes hg D7.out.good.start
  have D9 : Hid (Disc w9 w.heap.size L9 aw8 7 11) := Lib.hid hD
  have HD9 : Hid (L9.d = d) := Lib.hid (hld.trans HD7.out)
  have B9 : Hid (Below w.heap.size w w9) := Lib.hid (B7.out.trans hB)
  clear hg hld hD hB HC
  have hr9 := read_any w9 D9.out.holds ⟨#[97]⟩ (by decide)
  rw [HD9.out, HR8.out] at hr9
  have HC := Lib.hid hr9; clear hr9
  go_wp2_with fail
  refine HC.out.mono ?_
  rintro e w10 ⟨rfl, rfl⟩
  clear HC
  go_wp2_with fail
  go_ret
  exact ⟨rfl, B9.out⟩

end Go.Proofs.Ytefoijamedciiaa
