/- The walk of DiskTail. -/
import Derived.Test.YtefoijamedciiaaDkGreat
import Derived.Test.YtefoijamedciiaaDkTwo
import Derived.Test.YtefoijamedciiaaDkTl
import Derived.Test.YtefoijamedciiaaDkList
namespace Go.Proofs.Ytefoijamedciiaa
open Go.RowKit Go.Maps
open Dk (Dir Chg Disk File Str)

set_option maxHeartbeats 8000000 in
set_option maxRecDepth 100000 in
theorem tails_great (room : Int) (a1 : Option Addr) (n1 c1 : Nat) (l : List Act) (c : Dk.Crash) (vk vs : Value) (w : World)
    (h1 : ActsRaw w (.slice a1 n1 c1) l) (h3 : Chosen w vk vs c) (hg : greatL l = true ∨ greatC c = true) :
    Calls Try.prog 3 #[.int .i64 room, .slice a1 n1 c1, .agg #[.int .i64 c.names, vk, vs]] w (Gives (.bool true) w) := by
  have HA := Lib.hid awake_any
  have B0 := Lib.hid ((Below.refl w.heap.size w).alloc (Nat.le_refl _) (.cells #[.int .i64 c.names, vk, vs] 26))
  have XC : Hid (∀ w', Below (w.alloc (.cells #[.int .i64 c.names, vk, vs] 26)).heap.size (w.alloc (.cells #[.int .i64 c.names, vk, vs] 26)) w' → w'.cell? ⟨w.heap.size, 0, none⟩ = some (.int .i64 c.names) ∧ w'.cell? ⟨w.heap.size, 1, none⟩ = some vk ∧ w'.cell? ⟨w.heap.size, 2, none⟩ = some vs) := Lib.hid fun w' hb => by
    have hh := (hb.block w.heap.size (by rw [World.size_alloc]; omega)).trans (heap_alloc_new w _)
    exact ⟨by rw [cell_of hh]; rfl, by rw [cell_of hh]; rfl, by rw [cell_of hh]; rfl⟩
  have HL := Lib.hid (great_any _ _ l (h1.below B0.out))
  have HC : Hid (∀ w', Below (w.alloc (.cells #[.int .i64 c.names, vk, vs] 26)).heap.size (w.alloc (.cells #[.int .i64 c.names, vk, vs] 26)) w' → Calls Try.prog 7 #[.agg #[.int .i64 c.names, vk, vs]] w' (Gives (.bool (greatC c)) w')) := Lib.hid fun w' hb => greatCrash_any w' vk vs c ((h3.below B0.out).below hb)
  clear h1 h3
  obtain ⟨g1, hg1⟩ : ∃ g, g = greatL l := ⟨_, rfl⟩
  obtain ⟨g3, hg3⟩ : ∃ g, g = greatC c := ⟨_, rfl⟩
  rw [← hg1] at HL hg
  rw [← hg3] at HC hg
  clear hg1 hg3
  generalize c.names = cn at *
  obtain ⟨p, hp⟩ : ∃ p, p = w.heap.size := ⟨_, rfl⟩
  obtain ⟨w0, hw0⟩ : ∃ w0, w0 = w.alloc (.cells #[.int .i64 cn, vk, vs] 26) := ⟨_, rfl⟩
  have SZ : Hid (w.heap.size ≤ w0.heap.size) := by rw [hw0, World.size_alloc]; exact Lib.hid (Nat.le_succ _)
  cases g1 with
  | true =>
    clear hg
    go_enter Try.func3, Try.ntmps3
    go_wp2_with fail
    rw [← hw0] at B0 XC HL HC ⊢
    rw [← hp] at XC ⊢
    clear hw0 hp
    refine HL.out.mono ?_
    rintro e w1 ⟨rfl, hb1⟩
    have B1 := Lib.hid hb1; clear hb1
    obtain ⟨x0, x1, x2⟩ := XC.out w1 B1.out
    go_wp2_with fail
    refine (HA.out w1).mono ?_
    rintro e w5 ⟨rfl, hb5⟩
    have B5 := Lib.hid (Below.next B1.out hb5); clear hb5
    go_wp2_with fail
    go_ret
    exact ⟨rfl, B0.out.trans (B5.out.mono SZ.out)⟩
  | false =>
    obtain rfl : g3 = true := by
      rcases hg with h | h
      · cases h
      · exact h
    clear hg
    go_enter Try.func3, Try.ntmps3
    go_wp2_with fail
    rw [← hw0] at B0 XC HL HC ⊢
    rw [← hp] at XC ⊢
    clear hw0 hp
    refine HL.out.mono ?_
    rintro e w1 ⟨rfl, hb1⟩
    have B1 := Lib.hid hb1; clear hb1
    obtain ⟨x0, x1, x2⟩ := XC.out w1 B1.out
    go_wp2_with fail
    refine (HC.out w1 B1.out).mono ?_
    rintro e w3 ⟨rfl, hb3⟩
    have B3 := Lib.hid (Below.next B1.out hb3); clear hb3
    go_wp2_with fail
    refine (HA.out w3).mono ?_
    rintro e w5 ⟨rfl, hb5⟩
    have B5 := Lib.hid (Below.next B3.out hb5); clear hb5
    go_wp2_with fail
    go_ret
    exact ⟨rfl, B0.out.trans (B5.out.mono SZ.out)⟩

theorem read_at {S : Disk} (hd : S.down = false) {s : Str} {i : Nat} (hl : Dk.look s S.now = some i) : S.read s = ((S.file i).data, 0) := by
  unfold Dk.Disk.read
  rw [hd, if_neg (by simp), hl]
theorem crash_read {V : Disk} {c : Dk.Crash} {s : Str} {i : Nat} (hn : (V.crash c).now = V.now) (hl : Dk.look s V.now = some i) : ((V.crash c).start).read s = (((V.crash c).file i).data, 0) :=
  read_at (S := (V.crash c).start) rfl (by rw [← hn] at hl; exact hl)
theorem good_start {n m : Nat} {V : Disk} (G : Dk.Good n m V) (c : Dk.Crash) : Dk.Good (n + 1) m (V.crash c).start := (G.crash c).start
theorem no_choices {w : World} {L : Lay} : Choices w L (.slice none 0 0) (.slice none 0 0) ⟨0, [], []⟩ :=
  ⟨Or.inl ⟨rfl, none, 0, rfl⟩, Or.inl ⟨rfl, none, 0, rfl⟩, fun h => absurd rfl h, fun h => absurd rfl h, fun h => absurd rfl h, fun h => absurd rfl h, by simp, by simp, fun q hq => by simp at hq⟩

theorem pre_extract {a b : Str} (h : a <+: b) : (⟨b.toArray⟩ : ByteArray).extract 0 a.length = ⟨a.toArray⟩ := by
  obtain ⟨r, rfl⟩ := h
  apply ByteArray.ext
  rw [ByteArray.data_extract]
  apply Array.toList_inj.1
  simp
theorem size_of (l : Str) : (⟨l.toArray⟩ : ByteArray).size = l.length := by rw [Lib.size_eq]
theorem byte_of (l : Str) (j : Nat) (h : j < (⟨l.toArray⟩ : ByteArray).size) (h2 : j < l.length) : ((⟨l.toArray⟩ : ByteArray)[j]'h) = l[j]'h2 := by
  show (l.toArray)[j]'(by simpa using h2) = _
  simp
/-- What a loop over three texts asks. -/
theorem near_bytes {a b z : Str} (h : Dk.Near a b z) : ∃ p, ∀ j (h1 : j < (⟨b.toArray⟩ : ByteArray).size) (h2 : j < (⟨z.toArray⟩ : ByteArray).size), ((⟨b.toArray⟩ : ByteArray)[j]'h1).toNat ≠ ((⟨z.toArray⟩ : ByteArray)[j]'h2).toNat → p ≤ j ∧ j < p + 4 := by
  obtain ⟨p, hp⟩ := h.four
  refine ⟨p, fun j h1 h2 hne => ?_⟩
  have k1 : j < b.length := by rw [← size_of b]; exact h1
  have k2 : j < z.length := by rw [← size_of z]; exact h2
  refine hp j k1 k2 fun e => hne ?_
  rw [byte_of b j h1 k1, byte_of z j h2 k2, e]
theorem readV_of {S : Disk} {s d : Str} (h : S.read s = (d, 0)) : readV S ⟨s.toArray⟩ = .tuple #[.string ⟨d.toArray⟩, .int .i64 0] := by
  unfold readV
  have e : (⟨s.toArray⟩ : ByteArray).data.toList = s := by simp
  rw [e, h]

set_option maxHeartbeats 8000000 in
set_option maxRecDepth 100000 in
theorem tails_small (room : Int) (a1 : Option Addr) (n1 c1 : Nat) (l : List Act) (c : Dk.Crash) (vk vs : Value) (w : World)
    (h1 : ActsRaw w (.slice a1 n1 c1) l) (h3 : Chosen w vk vs c) (hg1 : greatL l = false) (hg3 : greatC c = false) :
    Calls Try.prog 3 #[.int .i64 room, .slice a1 n1 c1, .agg #[.int .i64 c.names, vk, vs]] w (Gives (.bool true) w) := by
  have HA := Lib.hid awake_any
  have B0 := Lib.hid ((Below.refl w.heap.size w).alloc (Nat.le_refl _) (.cells #[.int .i64 c.names, vk, vs] 26))
  have XC : Hid (∀ w', Below (w.alloc (.cells #[.int .i64 c.names, vk, vs] 26)).heap.size (w.alloc (.cells #[.int .i64 c.names, vk, vs] 26)) w' → w'.cell? ⟨w.heap.size, 0, none⟩ = some (.int .i64 c.names) ∧ w'.cell? ⟨w.heap.size, 1, none⟩ = some vk ∧ w'.cell? ⟨w.heap.size, 2, none⟩ = some vs) := Lib.hid fun w' hb => by
    have hh := (hb.block w.heap.size (by rw [World.size_alloc]; omega)).trans (heap_alloc_new w _)
    exact ⟨by rw [cell_of hh]; rfl, by rw [cell_of hh]; rfl, by rw [cell_of hh]; rfl⟩
  obtain ⟨ll1, lb1, ls1⟩ := small_of hg1
  have HL := Lib.hid (great_any _ _ l (h1.below B0.out))
  have HC : Hid (∀ w', Below (w.alloc (.cells #[.int .i64 c.names, vk, vs] 26)).heap.size (w.alloc (.cells #[.int .i64 c.names, vk, vs] 26)) w' → Calls Try.prog 7 #[.agg #[.int .i64 c.names, vk, vs]] w' (Gives (.bool (greatC c)) w')) := Lib.hid fun w' hb => greatCrash_any w' vk vs c ((h3.below B0.out).below hb)
  have A1 : Hid (∀ w', Below (w.alloc (.cells #[.int .i64 c.names, vk, vs] 26)).heap.size (w.alloc (.cells #[.int .i64 c.names, vk, vs] 26)) w' → ActsAt w' (w.alloc (.cells #[.int .i64 c.names, vk, vs] 26)).heap.size (.slice a1 n1 c1) l) := Lib.hid fun w' hb => ((h1.below B0.out).acts ls1).below hb
  have hcs : c.keep.length ≤ 100 ∧ c.spoil.length ≤ 100 := by
    unfold greatC at hg3
    simp only [Bool.or_eq_false_iff, decide_eq_false_iff_not] at hg3
    omega
  have OC : Hid (∀ w', Below (w.alloc (.cells #[.int .i64 c.names, vk, vs] 26)).heap.size (w.alloc (.cells #[.int .i64 c.names, vk, vs] 26)) w' → Older w' (w.alloc (.cells #[.int .i64 c.names, vk, vs] 26)).heap.size vk vs c) := Lib.hid fun w' hb => ((h3.below B0.out).older (by omega) (by omega)).below hb
  have NL : Hid (∀ x ∈ l, x.n ≤ 9223372036854775807) := Lib.hid fun x hx => by
    obtain ⟨i, hi, e⟩ := List.getElem_of_mem hx
    rcases h1 with ⟨h0, _⟩ | ⟨b, off, cap, _, _, hc⟩
    · subst h0; cases hx
    · exact (hc i x (by rw [List.getElem?_eq_getElem hi, e])).1.1
  rw [hg1] at HL
  rw [hg3] at HC
  have LL := Lib.hid (And.intro ll1 lb1)
  clear h1 h3 ll1 lb1 ls1 hcs hg1 hg3
  obtain ⟨cn, hcn⟩ : ∃ cn, cn = c.names := ⟨_, rfl⟩
  have HCN := Lib.hid hcn
  rw [← hcn] at B0 XC HL HC A1 OC ⊢
  clear hcn
  obtain ⟨p, hp⟩ : ∃ p, p = w.heap.size := ⟨_, rfl⟩
  obtain ⟨w0, hw0⟩ : ∃ w0, w0 = w.alloc (.cells #[.int .i64 cn, vk, vs] 26) := ⟨_, rfl⟩
  have SZ : Hid (w.heap.size ≤ w0.heap.size) := by rw [hw0, World.size_alloc]; exact Lib.hid (Nat.le_succ _)
  go_enter Try.func3, Try.ntmps3
  go_wp2_with fail
  rw [← hw0] at B0 XC HL HC A1 OC ⊢
  rw [← hp] at XC ⊢
  clear hw0 hp
  refine HL.out.mono ?_
  rintro e w1 ⟨rfl, hb1⟩
  have B1 := Lib.hid hb1; clear hb1
  obtain ⟨x0, x1, x2⟩ := XC.out w1 B1.out
  go_wp2_with fail
  refine (HC.out w1 B1.out).mono ?_
  rintro e w3 ⟨rfl, hb3⟩
  have B3 := Lib.hid (Below.next B1.out hb3); clear hb3 x0 x1 x2
  clear HL HC B1
  go_wp2_with fail
  refine (new_any w3 room).mono ?_
  rintro e w4 ⟨L0, rfl, hh, hb4, ho⟩
  have D0 : Hid (Disc w4 w0.heap.size L0 (Dk.fresh room) 0 0) := Lib.hid ⟨hh, Dk.good_fresh room, fun b hb => Nat.le_trans B3.out.size (ho b hb), Nat.le_trans B3.out.size hb4.size⟩
  have B4 := Lib.hid (Below.next B3.out hb4)
  obtain ⟨d, hd⟩ : ∃ d, d = L0.d := ⟨_, rfl⟩
  rw [← hd]
  have HD0 : Hid (L0.d = d) := hd.symm
  have hpl := plays_any D0.out _ l (A1.out w4 B4.out) (by have := LL.out.1; omega) (by have := LL.out.2; omega)
  rw [HD0.out] at hpl
  have HPL := Lib.hid hpl
  clear hh hb4 ho hd B3 hpl
  go_wp2_with fail
  refine HPL.out.mono ?_
  rintro e w5 ⟨u, L1, rfl, hld, hD, hB, _, _, _, _⟩
  have HD1 : Hid (L1.d = d) := Lib.hid hld
  obtain ⟨T, hT⟩ : ∃ T, T = played (Dk.fresh room) l := ⟨_, rfl⟩
  have OT : Hid (Dk.Sole T ∧ Dk.Made T) := by rw [hT]; exact Lib.hid (kin_played l (Dk.good_fresh room) (Dk.sole_fresh room) (Dk.made_fresh room) NL.out)
  rw [← hT] at hD
  have D1 : Hid (Disc w5 w0.heap.size L1 T 120 20000) := Lib.hid (hD.mono (by have := LL.out.1; omega) (by have := LL.out.2; omega))
  have B5 : Hid (Below w0.heap.size w0 w5) := Lib.hid (B4.out.trans hB)
  have hst := start_any _ D1.out.holds
  rw [HD1.out] at hst
  have HST := Lib.hid hst
  clear hld hT hD hB HPL D0 HD0 B4 hst
  go_wp2_with fail
  refine HST.out.mono ?_
  rintro e w6 ⟨rfl, hg⟩
  obtain ⟨L2, hld, hD, hB⟩ := D1.out.goes hg (n' := 120) (m' := 20000) D1.out.good.start
  have HD2 : Hid (L2.d = d) := Lib.hid (hld.trans HD1.out)
  have D2 := Lib.hid hD
  have B6 : Hid (Below w0.heap.size w0 w6) := Lib.hid (B5.out.trans hB)
  have hst := fuse_any _ D2.out.holds 0
  rw [HD2.out] at hst
  have HFU := Lib.hid hst
  clear hg hld hD hB hst D1 HD1 B5 HST
  go_wp2_with fail
  refine HFU.out.mono ?_
  rintro e w7 ⟨rfl, hg⟩
  obtain ⟨L3, hld, hD, hB⟩ := D2.out.goes hg (n' := 120) (m' := 20000) (D2.out.good.light 0 (by decide))
  have HD3 : Hid (L3.d = d) := Lib.hid (hld.trans HD2.out)
  have B7 : Hid (Below w0.heap.size w0 w7) := Lib.hid (B6.out.trans hB)
  obtain ⟨U, hU⟩ : ∃ U, U = T.start.light 0 := ⟨_, rfl⟩
  rw [← hU] at hD
  have OU : Hid (Dk.Sole U ∧ Dk.Made U) := by rw [hU]; exact Lib.hid ⟨⟨OT.out.1.uniq, OT.out.1.old, OT.out.1.made⟩, OT.out.2.start.light 0⟩
  have DU : Hid (U.down = false ∧ U.fuse = 0) := by rw [hU]; exact Lib.hid ⟨rfl, rfl⟩
  have D3 := Lib.hid hD
  have hst := dirSync_any _ D3.out.holds (fits_of D3.out.good (by decide) (by decide)) D3.out.good.cans (sizes_of D3.out.good)
  rw [HD3.out, dirSync_on DU.out.1 DU.out.2] at hst
  unfold errV at hst
  have HDS := Lib.hid hst
  clear hg hld hU hD hB hst D2 HD2 B6 HFU OT T NL A1
  go_wp2_with fail
  refine HDS.out.mono ?_
  rintro e w8 ⟨rfl, hg0⟩
  obtain ⟨V, hV⟩ : ∃ V, V = U.keep U.changes.length := ⟨_, rfl⟩
  have hg : Goes L3 w7 V w8 := by rw [hV]; exact hg0
  clear hg0
  have GV : Hid (Dk.Good 121 20000 V) := by
    have := D3.out.good.dirSync
    rw [dirSync_on DU.out.1 DU.out.2] at this
    rw [hV]; exact Lib.hid this
  have OV : Hid (Dk.Sole V ∧ Dk.Made V) := by
    have h1 := OU.out.1.dirSync
    have h2 := OU.out.2.dirSync
    rw [dirSync_on DU.out.1 DU.out.2] at h1 h2
    rw [hV]; exact Lib.hid ⟨h1, h2⟩
  have DV : Hid (V.changes = [] ∧ V.down = false) := by rw [hV]; exact Lib.hid ⟨rfl, DU.out.1⟩
  obtain ⟨L4, hld, hD, hB⟩ := D3.out.goes hg GV.out
  have HD4 : Hid (L4.d = d) := Lib.hid (hld.trans HD3.out)
  have B8 : Hid (Below w0.heap.size w0 w8) := Lib.hid (B7.out.trans hB)
  have D4 := Lib.hid hD
  have LO : Hid (w0.heap.size ≤ w8.heap.size) := Lib.hid B8.out.size
  have htw := twin_of D4.out (by decide) (by decide) OV.out.1 OV.out.2
  rw [HD4.out] at htw
  have HTW := Lib.hid htw
  clear hg hV hld hD hB HDS D3 HD3 B7 OU DU htw U
  go_wp2_with fail
  refine HTW.out.mono ?_
  rintro e w9 ⟨Ll, rfl, hDl, hb9⟩
  have DL := Lib.hid hDl
  have D5 := Lib.hid (D4.out.below hb9)
  have B9 := Lib.hid (Below.next B8.out hb9)
  have S1 : Hid (∀ b, Own Ll b → ¬ Own L4 b) := Lib.hid fun b hb ho => by have := hDl.own b hb; have := D4.out.holds.own_lt ho; omega
  obtain ⟨t, ht⟩ : ∃ t, t = Ll.d := ⟨_, rfl⟩
  rw [← ht]
  have HT1 : Hid (Ll.d = t) := ht.symm
  have htw := twin_of D5.out (by decide) (by decide) OV.out.1 OV.out.2
  rw [HD4.out] at htw
  have HTW2 := Lib.hid htw
  clear hDl hb9 ht htw HTW D4 B8
  go_wp2_with fail
  refine HTW2.out.mono ?_
  rintro e w10 ⟨Lm, rfl, hDm, hb10⟩
  have DM := Lib.hid hDm
  have D6 := Lib.hid (D5.out.below hb10)
  have DL2 := Lib.hid (DL.out.below hb10)
  have B10 := Lib.hid (Below.next B9.out hb10)
  have S2 : Hid (∀ b, Own Ll b → ¬ Own Lm b) := Lib.hid fun b hb ho => by have := hDm.own b ho; have := DL.out.holds.own_lt hb; omega
  have S3 : Hid (∀ b, Own L4 b → ¬ Own Lm b) := Lib.hid fun b hb ho => by have := hDm.own b ho; have := D5.out.holds.own_lt hb; omega
  obtain ⟨u, hu⟩ : ∃ u, u = Lm.d := ⟨_, rfl⟩
  rw [← hu]
  have HU1 : Hid (Lm.d = u) := hu.symm
  have hst := crash_any w10 DL2.out.holds (fits_of GV.out (by decide) (by decide)) GV.out.cans (sizes_of GV.out) (.slice none 0 0) (.slice none 0 0) ⟨0, [], []⟩ no_choices (crash_fits GV.out (by decide) (by decide) _).1 (crash_fits GV.out (by decide) (by decide) _).2
  rw [HT1.out] at hst
  have HCR := Lib.hid hst
  clear hDm hb10 hu hst HTW2 DL D5 B9
  go_wp2_with fail
  refine HCR.out.mono ?_
  rintro e w11 ⟨rfl, hg⟩
  obtain ⟨Ll2, hld, hDl, hB, hD, hDm, s1, s2⟩ := goes_three DL2.out hg (GV.out.crash _) D6.out DM.out S1.out S2.out
  have HT2 : Hid (Ll2.d = t) := Lib.hid (hld.trans HT1.out)
  have DL3 := Lib.hid hDl; have D7 := Lib.hid hD; have DM2 := Lib.hid hDm
  have S4 := Lib.hid s1; have S5 := Lib.hid s2
  have B11 : Hid (Below w0.heap.size w0 w11) := Lib.hid (B10.out.trans (hB.mono LO.out))
  have hst := start_any w11 DL3.out.holds
  rw [HT2.out] at hst
  have HST := Lib.hid hst
  clear hg hld hDl hB hD hDm s1 s2 hst HCR DL2 D6 DM S1 S2 HT1 B10
  go_wp2_with fail
  refine HST.out.mono ?_
  rintro e w12 ⟨rfl, hg⟩
  obtain ⟨Ll3, hld, hDl, hB, hD, hDm, s1, s2⟩ := goes_three DL3.out hg (good_start GV.out _) D7.out DM2.out S4.out S5.out
  have HT3 : Hid (Ll3.d = t) := Lib.hid (hld.trans HT2.out)
  have DL4 := Lib.hid hDl; have D8 := Lib.hid hD; have DM3 := Lib.hid hDm
  have S6 : Hid (∀ b, Own L4 b → ¬ Own Ll3 b) := Lib.hid fun b h1 h2 => s1 b h2 h1
  have B12 : Hid (Below w0.heap.size w0 w12) := Lib.hid (B11.out.trans (hB.mono LO.out))
  have hst := crash_any w12 D8.out.holds (fits_of GV.out (by decide) (by decide)) GV.out.cans (sizes_of GV.out) vk vs c ((OC.out w12 B12.out).choices D8.out) (crash_fits GV.out (by decide) (by decide) _).1 (crash_fits GV.out (by decide) (by decide) _).2
  rw [HD4.out, ← HCN.out] at hst
  have HCR := Lib.hid hst
  obtain ⟨x0, x1, x2⟩ := XC.out w12 B12.out
  clear hg hld hDl hB hD hDm s1 s2 hst HST DL3 D7 DM2 S4 S5 HT2 B11
  go_wp2_with fail
  refine HCR.out.mono ?_
  rintro e w13 ⟨rfl, hg⟩
  obtain ⟨L5, hld, hD, hB, hDl, hDm, s1, s2⟩ := goes_three D8.out hg (GV.out.crash _) DL4.out DM3.out S6.out S3.out
  have HD5 : Hid (L5.d = d) := Lib.hid (hld.trans HD4.out)
  have DL5 := Lib.hid hDl; have D9 := Lib.hid hD; have DM4 := Lib.hid hDm
  have S7 := Lib.hid s1; have S8 := Lib.hid s2
  have B13 : Hid (Below w0.heap.size w0 w13) := Lib.hid (B12.out.trans hB)
  have hst := start_any w13 D9.out.holds
  rw [HD5.out] at hst
  have HST := Lib.hid hst
  clear hg hld hDl hB hD hDm s1 s2 hst HCR DL4 D8 DM3 S6 S3 B12 HD4 x0 x1 x2 XC OC
  go_wp2_with fail
  refine HST.out.mono ?_
  rintro e w14 ⟨rfl, hg⟩
  obtain ⟨L6, hld, hD, hB, hDl, hDm, s1, s2⟩ := goes_three D9.out hg (good_start GV.out _) DL5.out DM4.out S7.out S8.out
  have HD6 : Hid (L6.d = d) := Lib.hid (hld.trans HD5.out)
  have DL6 := Lib.hid hDl; have D10 := Lib.hid hD; have DM5 := Lib.hid hDm
  have B14 : Hid (Below w0.heap.size w0 w14) := Lib.hid (B13.out.trans hB)
  have hfl : ∀ p ∈ V.now, (V.file p.2).lasts ≤ (V.file p.2).data.length := fun p hp => (hDm.holds.file p.2 (hDm.holds.inNow p hp)).le
  have CN := Lib.hid (Dk.crash_near GV.out hfl DV.out.1 c)
  have CM := Lib.hid (Dk.crash_near GV.out hfl DV.out.1 ⟨0, [], []⟩)
  have hnow : ((V.crash c).start).now = V.now := CN.out.1
  have hNM : ∀ p ∈ V.now, p.1.length ≤ 24 := fun p hp => (GV.out.nowNames p hp).2
  have NM := Lib.hid hNM
  have hli := list_any w14 D10.out.holds (fits_of D10.out.good (by decide) (by decide)) (by rw [hnow]; exact fun p hp => by have := NM.out p hp; omega)
  rw [HD6.out, hnow] at hli
  have HLI := Lib.hid hli
  have RI : Hid (V.now.Pairwise (fun p q => bytesBefore p.1 q.1 = true)) := Lib.hid (rising DM5.out.holds.now)
  clear hg hld hDl hB hD hDm s1 s2 HST DL5 D9 DM4 S7 S8 B13 HD5 hfl hnow hNM hli
  go_wp2_with fail
  refine HLI.out.mono ?_
  rintro e w15 ⟨v, rfl, hrow, hb15⟩
  obtain ⟨na, nc, rfl⟩ := row_shape hrow
  have DL7 := Lib.hid (DL6.out.below hb15); have D11 := Lib.hid (D10.out.below hb15); have DM6 := Lib.hid (DM5.out.below hb15)
  have B15 := Lib.hid (Below.next B14.out hb15)
  have ROW := Lib.hid hrow
  have hli := list_any w15 DM6.out.holds (fits_of GV.out (by decide) (by decide)) (fun p hp => by have := NM.out p hp; omega)
  rw [HU1.out] at hli
  have HLI2 := Lib.hid hli
  clear hrow hb15 hli HLI DL6 D10 DM5 B14
  go_wp2_with fail
  refine HLI2.out.mono ?_
  rintro e w16 ⟨v2, rfl, hrow2, hb16⟩
  obtain ⟨na2, nc2, rfl⟩ := row_shape hrow2
  have DL8 := Lib.hid (DL7.out.below hb16); have D12 := Lib.hid (D11.out.below hb16); have DM7 := Lib.hid (DM6.out.below hb16)
  have B16 := Lib.hid (Below.next B15.out hb16)
  have ROW2 : Hid (w16.ownsRow w14.heap.size 9 1 (.slice na V.now.length nc) V.now.length (V.now.map fun p => strV p.1)) := Lib.hid (ownsRow_frame ROW.out fun b hb => hb16.block b (ownsRow_lt ROW.out hb))
  obtain ⟨n, hn⟩ : ∃ n, n = V.now.length := ⟨_, rfl⟩
  have HN := Lib.hid hn
  have hni : (n : Int) ≤ 121 := by have := GV.out.nowLen; omega
  rw [← hn] at ROW2 ⊢
  clear hrow2 hb16 HLI2 DL7 D11 DM6 B15 ROW hn
  go_wp2_with fail
  go_loopw [11] (fun z wr => ∃ k : Nat, k ≤ n ∧ z = .int .i64 (k : Int) ∧ Hid (Below w16.heap.size w16 wr)) (fun z _ => n - (intOf z).toNat)
  case atStart => exact ⟨0, by omega, rfl, Lib.hid (Below.refl _ _)⟩
  case round =>
    obtain ⟨k, hk, rfl, HK⟩ := hrel
    by_cases hlt : k < n
    · have hlt2 : (k : Int) < n := by omega
      obtain ⟨pr, hpr⟩ : ∃ p, V.now[k]? = some p := ⟨_, List.getElem?_eq_getElem (by have := HN.out; omega)⟩
      have hpm : (V.now.map fun p => strV p.1)[k]? = some (strV pr.1) := by rw [List.getElem?_map, hpr]; rfl
      obtain ⟨g, rfl, e0⟩ := row_at (ownsRow_frame ROW2.out fun b hb => HK.out.block b (ownsRow_lt ROW2.out hb)) hpm hlt
      have hlk := look_at RI.out hpr
      have hmem := List.mem_of_getElem? hpr
      have hnr := CN.out.2 pr hmem
      have hnm : pr.1.length ≤ 24 := NM.out pr hmem
      have ra := readV_of (crash_read CM.out.1 hlk)
      have rb := readV_of (crash_read CN.out.1 hlk)
      have rz := readV_of (read_at DV.out.2 hlk)
      have hpe := pre_extract hnr.ab
      obtain ⟨p4, h4⟩ := near_bytes hnr
      have hz1 : ((V.crash ⟨0, [], []⟩).file pr.2).data.length ≤ ((V.crash c).file pr.2).data.length := hnr.ab.length_le
      have hz2 := hnr.bz
      have hz3 := DM7.out.good.dat pr.2
      obtain ⟨nm, hnm2⟩ : ∃ nm, nm = (⟨pr.1.toArray⟩ : ByteArray) := ⟨_, rfl⟩
      obtain ⟨a, ha⟩ : ∃ a, a = (⟨((V.crash ⟨0, [], []⟩).file pr.2).data.toArray⟩ : ByteArray) := ⟨_, rfl⟩
      obtain ⟨b, hb⟩ : ∃ b, b = (⟨((V.crash c).file pr.2).data.toArray⟩ : ByteArray) := ⟨_, rfl⟩
      obtain ⟨z, hz⟩ : ∃ z, z = (⟨(V.file pr.2).data.toArray⟩ : ByteArray) := ⟨_, rfl⟩
      have za : a.size = ((V.crash ⟨0, [], []⟩).file pr.2).data.length := by rw [ha, Lib.size_eq]
      have zb : b.size = ((V.crash c).file pr.2).data.length := by rw [hb, Lib.size_eq]
      have zz : z.size = (V.file pr.2).data.length := by rw [hz, Lib.size_eq]
      have zn : nm.size = pr.1.length := by rw [hnm2, Lib.size_eq]
      unfold strV at e0
      rw [← hnm2] at e0 ra rb rz
      rw [← ha] at ra hpe
      rw [← hb] at rb hpe h4
      rw [← hz] at rz h4
      rw [← za] at hz1 hpe
      rw [← zb] at hz1 hz2
      rw [← zz] at hz2 hz3
      have RA := Lib.hid fun (w' : World) (hb : Below w16.heap.size w16 w') => read_any w' (DL8.out.below hb).holds nm (by unfold maxLen; omega)
      have RB := Lib.hid fun (w' : World) (hb : Below w16.heap.size w16 w') => read_any w' (D12.out.below hb).holds nm (by unfold maxLen; omega)
      have RZ := Lib.hid fun (w' : World) (hb : Below w16.heap.size w16 w') => read_any w' (DM7.out.below hb).holds nm (by unfold maxLen; omega)
      rw [HT3.out, ra] at RA
      rw [HD6.out, rb] at RB
      rw [HU1.out, rz] at RZ
      have FOUR := Lib.hid h4
      have hab : (a.size : Int) ≤ b.size := by omega
      have hbz : (b.size : Int) ≤ z.size := by omega
      have hzm : (z.size : Int) ≤ 20000 := by omega
      have HPE := Lib.hid hpe
      clear hpr hpm hlk hmem hnr ra rb rz hpe h4 hz1 hz2 hz3 ha hb hz za zb zz zn hnm hnm2
      go_wp2_with fail
      refine (RA.out wr HK.out).mono ?_
      rintro e wz ⟨rfl, rfl⟩
      go_wp2_with fail
      refine (RB.out wz HK.out).mono ?_
      rintro e wz2 ⟨rfl, rfl⟩
      go_wp2_with fail
      refine (RZ.out wz2 HK.out).mono ?_
      rintro e wz3 ⟨rfl, rfl⟩
      clear RA RB RZ e0
      go_wp2_with fail
      · exfalso
        rename_i hx
        rw [HPE.out] at hx
        simp at hx
        omega
      rename_i hx
      clear hx HPE
      go_loopw [19, 18] (fun v u w2 => ∃ (j : Nat) (fs : Int), v = .int .i64 (j : Int) ∧ u = .int .i64 fs ∧ a.size ≤ j ∧ j ≤ b.size ∧ (fs = -1 ∨ ((p4 : Int) ≤ fs ∧ fs < j)) ∧ Hid (Below w16.heap.size w16 w2)) (fun v _ _ => b.size - (intOf v).toNat)
      case atStart => exact ⟨a.size, -1, rfl, rfl, by omega, by omega, Or.inl rfl, HK⟩
      case round =>
        obtain ⟨j, fs, rfl, rfl, hj1, hj2, hfs, HK2⟩ := hrel
        by_cases hjl : j < b.size
        · have hjl2 : (j : Int) < b.size := by omega
          have hjz : j < z.size := by omega
          have hxb := index_byte b j hjl
          have hxz := index_byte z j hjz
          have h4 := FOUR.out j hjl hjz
          obtain ⟨xb, hb⟩ : ∃ x, x = (b[j]'hjl).toNat := ⟨_, rfl⟩
          obtain ⟨xz, hz⟩ : ∃ x, x = (z[j]'hjz).toNat := ⟨_, rfl⟩
          rw [← hb] at hxb h4
          rw [← hz] at hxz h4
          clear hb hz
          by_cases hxx : xb = xz
          · subst hxx
            clear h4
            go_wp2_with fail
            go_quiet (fail)
            go_wp2_with fail
            go_roundw
            case rel => exact ⟨j + 1, fs, by go_num, rfl, by omega, by omega, by omega, Lib.hid ((still_drewN _ _).under HK2.out)⟩
            case measure => simp [intOf]; omega
          · have h5 := h4 hxx
            have hxi : ¬ (xb : Int) = xz := by omega
            clear h4
            by_cases hf1 : fs = -1
            · subst hf1
              clear hfs
              go_wp2_with fail
              go_quiet (fail)
              go_wp2_with fail
              go_roundw
              case rel => exact ⟨j + 1, j, by go_num, by go_num, by omega, by omega, Or.inr (by omega), Lib.hid ((still_drewN _ _).under HK2.out)⟩
              case measure => simp [intOf]; omega
            · have hf2 : (p4 : Int) ≤ fs ∧ fs < j := by omega
              obtain ⟨hf3, hf4⟩ := hf2
              have hf5 : 0 ≤ fs := by omega
              have hf6 : (j : Int) - fs < 4 := by omega
              clear hfs hf1 h5 hxx
              go_wp2_with fail
              go_quiet (fail)
              go_wp2_with fail
              go_roundw
              case rel => exact ⟨j + 1, fs, by go_num, rfl, by omega, by omega, Or.inr (by omega), Lib.hid ((still_drewN _ _).under HK2.out)⟩
              case measure => simp [intOf]; omega
        · obtain rfl : j = b.size := by omega
          clear hjl
          go_wp2_with fail
          go_roundw
          case rel => exact ⟨k + 1, by omega, by go_num, HK2⟩
          case measure => simp [intOf]; omega
    · obtain rfl : k = n := by omega
      clear hlt
      go_wp2_with fail
      refine (HA.out wr).mono ?_
      rintro e w20 ⟨rfl, hb20⟩
      have B20 := Lib.hid (Below.next (Below.next B16.out HK.out) hb20); clear hb20
      go_wp2_with fail
      go_ret
      exact ⟨rfl, B0.out.trans (B20.out.mono SZ.out)⟩

theorem tails_walk (room : Int) (a1 : Option Addr) (n1 c1 : Nat) (l : List Act) (c : Dk.Crash) (vk vs : Value) (w : World) (_ : -9223372036854775808 ≤ room ∧ room ≤ 9223372036854775807) (h1 : ActsRaw w (.slice a1 n1 c1) l) (h3 : Chosen w vk vs c) :
    Calls Try.prog 3 #[.int .i64 room, .slice a1 n1 c1, .agg #[.int .i64 c.names, vk, vs]] w (Gives (.bool true) w) := by
  cases e1 : greatL l with
  | true => exact tails_great room a1 n1 c1 l c vk vs w h1 h3 (Or.inl e1)
  | false => cases e3 : greatC c with
    | true => exact tails_great room a1 n1 c1 l c vk vs w h1 h3 (Or.inr e3)
    | false => exact tails_small room a1 n1 c1 l c vk vs w h1 h3 e1 e3

end Go.Proofs.Ytefoijamedciiaa
