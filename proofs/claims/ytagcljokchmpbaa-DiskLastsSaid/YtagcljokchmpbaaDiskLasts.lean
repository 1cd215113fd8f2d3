/- The walk of DiskLasts. -/
import Derived.Test.YtagcljokchmpbaaDkGreat
import Derived.Test.YtagcljokchmpbaaDkLast
namespace Go.Proofs.Ytagcljokchmpbaa
open Go.RowKit Go.Maps
open Dk (Dir Chg Disk File Str)

theorem keeps_reads {n m : Nat} {s : Str} {i : Nat} {D : Str} {S : Disk} (h : Keeps s i D S) (G : Dk.Good n m S) (hd : S.down = false) : S.read s = (D, 0) := by
  have hn := h.now G
  have hf := h.file
  unfold Disk.read
  rw [hd, if_neg (by simp), hn]
  dsimp only
  rw [hf]

set_option maxHeartbeats 8000000 in
set_option maxRecDepth 100000 in
theorem lasts_great (room : Int) (a1 : Option Addr) (n1 c1 : Nat) (l : List Act) (a2 : Option Addr) (n2 c2 : Nat) (m : List Act) (name : ByteArray) (c : Dk.Crash) (vk vs : Value) (w : World)
    (h1 : ActsRaw w (.slice a1 n1 c1) l) (h2 : ActsRaw w (.slice a2 n2 c2) m) (h3 : Chosen w vk vs c) (hg : greatL l = true ∨ greatL m = true ∨ greatC c = true ∨ (100 : Int) < name.size) :
    Calls Try.prog 4 #[.int .i64 room, .slice a1 n1 c1, .slice a2 n2 c2, .string name, .agg #[.int .i64 c.names, vk, vs]] w (Gives (.bool true) w) := by
  have HA := Lib.hid awake_any
  have B0 := Lib.hid ((Below.refl w.heap.size w).alloc (Nat.le_refl _) (.cells #[.int .i64 c.names, vk, vs] 34))
  have XC : Hid (∀ w', Below (w.alloc (.cells #[.int .i64 c.names, vk, vs] 34)).heap.size (w.alloc (.cells #[.int .i64 c.names, vk, vs] 34)) w' → w'.cell? ⟨w.heap.size, 0, none⟩ = some (.int .i64 c.names) ∧ w'.cell? ⟨w.heap.size, 1, none⟩ = some vk ∧ w'.cell? ⟨w.heap.size, 2, none⟩ = some vs) := Lib.hid fun w' hb => by
    have hh := (hb.block w.heap.size (by rw [World.size_alloc]; omega)).trans (heap_alloc_new w _)
    exact ⟨by rw [cell_of hh]; rfl, by rw [cell_of hh]; rfl, by rw [cell_of hh]; rfl⟩
  have HL := Lib.hid (great_any _ _ l (h1.below B0.out))
  have HM : Hid (∀ w', Below (w.alloc (.cells #[.int .i64 c.names, vk, vs] 34)).heap.size (w.alloc (.cells #[.int .i64 c.names, vk, vs] 34)) w' → Calls Try.prog 27 #[.slice a2 n2 c2] w' (Gives (.bool (greatL m)) w')) := Lib.hid fun w' hb => great_any w' _ m ((h2.below B0.out).below hb)
  have HC : Hid (∀ w', Below (w.alloc (.cells #[.int .i64 c.names, vk, vs] 34)).heap.size (w.alloc (.cells #[.int .i64 c.names, vk, vs] 34)) w' → Calls Try.prog 28 #[.agg #[.int .i64 c.names, vk, vs]] w' (Gives (.bool (greatC c)) w')) := Lib.hid fun w' hb => greatCrash_any w' vk vs c ((h3.below B0.out).below hb)
  clear h1 h2 h3
  obtain ⟨g1, hg1⟩ : ∃ g, g = greatL l := ⟨_, rfl⟩
  obtain ⟨g2, hg2⟩ : ∃ g, g = greatL m := ⟨_, rfl⟩
  obtain ⟨g3, hg3⟩ : ∃ g, g = greatC c := ⟨_, rfl⟩
  rw [← hg1] at HL hg
  rw [← hg2] at HM hg
  rw [← hg3] at HC hg
  clear hg1 hg2 hg3
  generalize c.names = cn at *
  obtain ⟨p, hp⟩ : ∃ p, p = w.heap.size := ⟨_, rfl⟩
  obtain ⟨w0, hw0⟩ : ∃ w0, w0 = w.alloc (.cells #[.int .i64 cn, vk, vs] 34) := ⟨_, rfl⟩
  have SZ : Hid (w.heap.size ≤ w0.heap.size) := by rw [hw0, World.size_alloc]; exact Lib.hid (Nat.le_succ _)
  cases g1 with
  | true =>
    clear hg
    go_enter Try.func4, Try.ntmps4
    go_wp2_with fail
    rw [← hw0] at B0 XC HL HM HC ⊢
    rw [← hp] at XC ⊢
    clear hw0 hp
    refine HL.out.mono ?_
    rintro e w1 ⟨rfl, hb1⟩
    have B1 := Lib.hid hb1; clear hb1
    obtain ⟨x0, x1, x2⟩ := XC.out w1 B1.out
    go_wp2_with fail
    refine (HA.out w1).mono ?_
    rintro e w5 ⟨rfl, hb5⟩
    have B5 := Lib.hid (Below.next B1.out hb5); clear hb5
    go_wp2_with fail
    go_ret
    exact ⟨rfl, B0.out.trans (B5.out.mono SZ.out)⟩
  | false =>
    cases g2 with
    | true =>
      clear hg
      go_enter Try.func4, Try.ntmps4
      go_wp2_with fail
      rw [← hw0] at B0 XC HL HM HC ⊢
      rw [← hp] at XC ⊢
      clear hw0 hp
      refine HL.out.mono ?_
      rintro e w1 ⟨rfl, hb1⟩
      have B1 := Lib.hid hb1; clear hb1
      obtain ⟨x0, x1, x2⟩ := XC.out w1 B1.out
      go_wp2_with fail
      refine (HM.out w1 B1.out).mono ?_
      rintro e w2 ⟨rfl, hb2⟩
      have B2 := Lib.hid (Below.next B1.out hb2); clear hb2 x0 x1 x2
      obtain ⟨x0, x1, x2⟩ := XC.out w2 B2.out
      go_wp2_with fail
      refine (HA.out w2).mono ?_
      rintro e w5 ⟨rfl, hb5⟩
      have B5 := Lib.hid (Below.next B2.out hb5); clear hb5
      go_wp2_with fail
      go_ret
      exact ⟨rfl, B0.out.trans (B5.out.mono SZ.out)⟩
    | false =>
      cases g3 with
      | true =>
        clear hg
        go_enter Try.func4, Try.ntmps4
        go_wp2_with fail
        rw [← hw0] at B0 XC HL HM HC ⊢
        rw [← hp] at XC ⊢
        clear hw0 hp
        refine HL.out.mono ?_
        rintro e w1 ⟨rfl, hb1⟩
        have B1 := Lib.hid hb1; clear hb1
        obtain ⟨x0, x1, x2⟩ := XC.out w1 B1.out
        go_wp2_with fail
        refine (HM.out w1 B1.out).mono ?_
        rintro e w2 ⟨rfl, hb2⟩
        have B2 := Lib.hid (Below.next B1.out hb2); clear hb2 x0 x1 x2
        obtain ⟨x0, x1, x2⟩ := XC.out w2 B2.out
        go_wp2_with fail
        refine (HC.out w2 B2.out).mono ?_
        rintro e w3 ⟨rfl, hb3⟩
        have B3 := Lib.hid (Below.next B2.out hb3); clear hb3
        go_wp2_with fail
        refine (HA.out w3).mono ?_
        rintro e w5 ⟨rfl, hb5⟩
        have B5 := Lib.hid (Below.next B3.out hb5); clear hb5
        go_wp2_with fail
        go_ret
        exact ⟨rfl, B0.out.trans (B5.out.mono SZ.out)⟩
      | false =>
        have hn : (100 : Int) < name.size := by rcases hg with h | h | h | h <;> first | cases h | exact h
        clear hg
        go_enter Try.func4, Try.ntmps4
        go_wp2_with fail
        rw [← hw0] at B0 XC HL HM HC ⊢
        rw [← hp] at XC ⊢
        clear hw0 hp
        refine HL.out.mono ?_
        rintro e w1 ⟨rfl, hb1⟩
        have B1 := Lib.hid hb1; clear hb1
        obtain ⟨x0, x1, x2⟩ := XC.out w1 B1.out
        go_wp2_with fail
        refine (HM.out w1 B1.out).mono ?_
        rintro e w2 ⟨rfl, hb2⟩
        have B2 := Lib.hid (Below.next B1.out hb2); clear hb2 x0 x1 x2
        obtain ⟨x0, x1, x2⟩ := XC.out w2 B2.out
        go_wp2_with fail
        refine (HC.out w2 B2.out).mono ?_
        rintro e w3 ⟨rfl, hb3⟩
        have B3 := Lib.hid (Below.next B2.out hb3); clear hb3
        go_wp2_with fail
        refine (HA.out w3).mono ?_
        rintro e w5 ⟨rfl, hb5⟩
        have B5 := Lib.hid (Below.next B3.out hb5); clear hb5
        go_wp2_with fail
        go_ret
        exact ⟨rfl, B0.out.trans (B5.out.mono SZ.out)⟩

theorem sole_played : ∀ (l : List Act) {n m : Nat} {S : Disk}, Dk.Good n m S → Dk.Sole S → (∀ x ∈ l, x.n ≤ 9223372036854775807) → Dk.Sole (played S l)
  | [], _, _, _, _, h, _ => h
  | x :: r, _, _, _, G, h, hx => sole_played r (good_does G x (hx x (List.mem_cons_self ..))) (sole_does h G x) (fun y hy => hx y (List.mem_cons_of_mem _ hy))
/-- Behind a Sync and a DirSync with the power on. -/
theorem lasting_cases {n m : Nat} {U : Disk} (G : Dk.Good n m U) (hd : U.down = false) (hf : U.fuse = 0) (s : Str) :
    ((U.sync s).1 = 4 ∧ (U.sync s).2.dirSync.1 = 0) ∨ ∃ i D, (U.sync s).1 = 0 ∧ (U.sync s).2.dirSync.1 = 0 ∧ Keeps s i D (U.sync s).2.dirSync.2 ∧ (U.sync s).2.dirSync.2.down = false := by
  rw [sync_on hd hf s]
  cases hl : Dk.look s U.now with
  | none =>
    left
    dsimp only
    rw [dirSync_on hd hf]
    exact ⟨rfl, rfl⟩
  | some i =>
    right
    dsimp only
    rw [dirSync_on (show (U.setFile i _).down = false from hd) (show (U.setFile i _).fuse = 0 from hf)]
    exact ⟨i, _, rfl, rfl, keeps_start G hl, hd⟩

set_option maxHeartbeats 8000000 in
set_option maxRecDepth 100000 in
theorem lasts_small (room : Int) (a1 : Option Addr) (n1 c1 : Nat) (l : List Act) (a2 : Option Addr) (n2 c2 : Nat) (m : List Act) (name : ByteArray) (c : Dk.Crash) (vk vs : Value) (w : World)
    (h1 : ActsRaw w (.slice a1 n1 c1) l) (h2 : ActsRaw w (.slice a2 n2 c2) m) (h3 : Chosen w vk vs c) (hg1 : greatL l = false) (hg2 : greatL m = false) (hg3 : greatC c = false) (hn : (name.size : Int) ≤ 100) :
    Calls Try.prog 4 #[.int .i64 room, .slice a1 n1 c1, .slice a2 n2 c2, .string name, .agg #[.int .i64 c.names, vk, vs]] w (Gives (.bool true) w) := by
  have HA := Lib.hid awake_any
  have B0 := Lib.hid ((Below.refl w.heap.size w).alloc (Nat.le_refl _) (.cells #[.int .i64 c.names, vk, vs] 34))
  have XC : Hid (∀ w', Below (w.alloc (.cells #[.int .i64 c.names, vk, vs] 34)).heap.size (w.alloc (.cells #[.int .i64 c.names, vk, vs] 34)) w' → w'.cell? ⟨w.heap.size, 0, none⟩ = some (.int .i64 c.names) ∧ w'.cell? ⟨w.heap.size, 1, none⟩ = some vk ∧ w'.cell? ⟨w.heap.size, 2, none⟩ = some vs) := Lib.hid fun w' hb => by
    have hh := (hb.block w.heap.size (by rw [World.size_alloc]; omega)).trans (heap_alloc_new w _)
    exact ⟨by rw [cell_of hh]; rfl, by rw [cell_of hh]; rfl, by rw [cell_of hh]; rfl⟩
  obtain ⟨ll1, lb1, ls1⟩ := small_of hg1
  obtain ⟨ll2, lb2, ls2⟩ := small_of hg2
  have HL := Lib.hid (great_any _ _ l (h1.below B0.out))
  have HM : Hid (∀ w', Below (w.alloc (.cells #[.int .i64 c.names, vk, vs] 34)).heap.size (w.alloc (.cells #[.int .i64 c.names, vk, vs] 34)) w' → Calls Try.prog 27 #[.slice a2 n2 c2] w' (Gives (.bool (greatL m)) w')) := Lib.hid fun w' hb => great_any w' _ m ((h2.below B0.out).below hb)
  have HC : Hid (∀ w', Below (w.alloc (.cells #[.int .i64 c.names, vk, vs] 34)).heap.size (w.alloc (.cells #[.int .i64 c.names, vk, vs] 34)) w' → Calls Try.prog 28 #[.agg #[.int .i64 c.names, vk, vs]] w' (Gives (.bool (greatC c)) w')) := Lib.hid fun w' hb => greatCrash_any w' vk vs c ((h3.below B0.out).below hb)
  have A1 : Hid (∀ w', Below (w.alloc (.cells #[.int .i64 c.names, vk, vs] 34)).heap.size (w.alloc (.cells #[.int .i64 c.names, vk, vs] 34)) w' → ActsAt w' (w.alloc (.cells #[.int .i64 c.names, vk, vs] 34)).heap.size (.slice a1 n1 c1) l) := Lib.hid fun w' hb => ((h1.below B0.out).acts ls1).below hb
  have A2 : Hid (∀ w', Below (w.alloc (.cells #[.int .i64 c.names, vk, vs] 34)).heap.size (w.alloc (.cells #[.int .i64 c.names, vk, vs] 34)) w' → ActsAt w' (w.alloc (.cells #[.int .i64 c.names, vk, vs] 34)).heap.size (.slice a2 n2 c2) m) := Lib.hid fun w' hb => ((h2.below B0.out).acts ls2).below hb
  have hcs : c.keep.length ≤ 100 ∧ c.spoil.length ≤ 100 := by
    unfold greatC at hg3
    simp only [Bool.or_eq_false_iff, decide_eq_false_iff_not] at hg3
    omega
  have OC : Hid (∀ w', Below (w.alloc (.cells #[.int .i64 c.names, vk, vs] 34)).heap.size (w.alloc (.cells #[.int .i64 c.names, vk, vs] 34)) w' → Older w' (w.alloc (.cells #[.int .i64 c.names, vk, vs] 34)).heap.size vk vs c) := Lib.hid fun w' hb => ((h3.below B0.out).older (by omega) (by omega)).below hb
  have NL : Hid (∀ x ∈ l, x.n ≤ 9223372036854775807) := Lib.hid fun x hx => by
    obtain ⟨i, hi, e⟩ := List.getElem_of_mem hx
    rcases h1 with ⟨h0, _⟩ | ⟨b, off, cap, _, _, hc⟩
    · subst h0; cases hx
    · exact (hc i x (by rw [List.getElem?_eq_getElem hi, e])).1.1
  have NM : Hid (∀ (i : Nat) (x : Act), m[i]? = some x → x.n ≤ 9223372036854775807) := Lib.hid fun i x hi => by
    rcases h2 with ⟨h0, _⟩ | ⟨b, off, cap, _, _, hc⟩
    · subst h0; simp at hi
    · exact (hc i x hi).1.1
  obtain ⟨aa, cc, hsh⟩ := h2.shape
  obtain ⟨rfl, rfl, rfl⟩ : a2 = aa ∧ n2 = m.length ∧ c2 = cc := by simpa using hsh
  rw [hg1] at HL
  rw [hg2] at HM
  rw [hg3] at HC
  have LL := Lib.hid (And.intro ll1 (And.intro lb1 (And.intro ll2 lb2)))
  have hm0 : (m.length : Int) ≤ 120 := by omega
  clear h1 h2 h3 ll1 lb1 ls1 ll2 lb2 ls2 hcs hsh hg1 hg2 hg3
  obtain ⟨cn, hcn⟩ : ∃ cn, cn = c.names := ⟨_, rfl⟩
  have HCN := Lib.hid hcn
  rw [← hcn] at B0 XC HL HM HC A1 A2 OC ⊢
  clear hcn
  obtain ⟨p, hp⟩ : ∃ p, p = w.heap.size := ⟨_, rfl⟩
  obtain ⟨w0, hw0⟩ : ∃ w0, w0 = w.alloc (.cells #[.int .i64 cn, vk, vs] 34) := ⟨_, rfl⟩
  have SZ : Hid (w.heap.size ≤ w0.heap.size) := by rw [hw0, World.size_alloc]; exact Lib.hid (Nat.le_succ _)
  go_enter Try.func4, Try.ntmps4
  go_wp2_with fail
  rw [← hw0] at B0 XC HL HM HC A1 A2 OC ⊢
  rw [← hp] at XC ⊢
  clear hw0 hp
  refine HL.out.mono ?_
  rintro e w1 ⟨rfl, hb1⟩
  have B1 := Lib.hid hb1; clear hb1
  obtain ⟨x0, x1, x2⟩ := XC.out w1 B1.out
  go_wp2_with fail
  refine (HM.out w1 B1.out).mono ?_
  rintro e w2 ⟨rfl, hb2⟩
  have B2 := Lib.hid (Below.next B1.out hb2); clear hb2 x0 x1 x2
  obtain ⟨x0, x1, x2⟩ := XC.out w2 B2.out
  go_wp2_with fail
  refine (HC.out w2 B2.out).mono ?_
  rintro e w3 ⟨rfl, hb3⟩
  have B3 := Lib.hid (Below.next B2.out hb3); clear hb3 x0 x1 x2
  clear HL HM HC B1 B2
  go_wp2_with fail
  refine (new_any w3 room).mono ?_
  rintro e w4 ⟨L0, rfl, hh, hb4, ho⟩
  have D0 : Hid (Disc w4 w0.heap.size L0 (Dk.fresh room) 0 0) := Lib.hid ⟨hh, Dk.good_fresh room, fun b hb => Nat.le_trans B3.out.size (ho b hb), Nat.le_trans B3.out.size hb4.size⟩
  have B4 := Lib.hid (Below.next B3.out hb4)
  obtain ⟨d, hd⟩ : ∃ d, d = L0.d := ⟨_, rfl⟩
  rw [← hd]
  have HD0 : Hid (L0.d = d) := hd.symm
  have hpl := plays_any D0.out _ l (A1.out w4 B4.out) (by have := LL.out.1; omega) (by have := LL.out.2.1; omega)
  rw [HD0.out] at hpl
  have HPL := Lib.hid hpl
  clear hh hb4 ho hd B3 hpl
  go_wp2_with fail
  refine HPL.out.mono ?_
  rintro e w5 ⟨u, L1, rfl, hld, hD, hB, _, _, _, _⟩
  have HD1 : Hid (L1.d = d) := Lib.hid hld
  obtain ⟨T, hT⟩ : ∃ T, T = played (Dk.fresh room) l := ⟨_, rfl⟩
  have OT : Hid (Dk.Sole T) := by rw [hT]; exact Lib.hid (sole_played l (Dk.good_fresh room) (Dk.sole_fresh room) NL.out)
  rw [← hT] at hD
  have D1 : Hid (Disc w5 w0.heap.size L1 T 120 20000) := Lib.hid (hD.mono (by have := LL.out.1; omega) (by have := LL.out.2.1; omega))
  have B5 : Hid (Below w0.heap.size w0 w5) := Lib.hid (B4.out.trans hB)
  have hst := start_any _ D1.out.holds
  rw [HD1.out] at hst
  have HST := Lib.hid hst
  clear hld hT hD hB HPL D0 HD0 B4 hst
  go_wp2_with fail
  refine HST.out.mono ?_
  rintro e w6 ⟨rfl, hg⟩
  obtain ⟨L2, hld, hD, hB⟩ := D1.out.goes hg (n' := 120) (m' := 20000) D1.out.good.start
  have HD2 : Hid (L2.d = d) := Lib.hid (hld.trans HD1.out)
  have D2 := Lib.hid hD
  have B6 : Hid (Below w0.heap.size w0 w6) := Lib.hid (B5.out.trans hB)
  have hst := fuse_any _ D2.out.holds 0
  rw [HD2.out] at hst
  have HFU := Lib.hid hst
  clear hg hld hD hB hst D1 HD1 B5 HST
  go_wp2_with fail
  refine HFU.out.mono ?_
  rintro e w7 ⟨rfl, hg⟩
  obtain ⟨L3, hld, hD, hB⟩ := D2.out.goes hg (n' := 120) (m' := 20000) (D2.out.good.light 0 (by decide))
  have HD3 : Hid (L3.d = d) := Lib.hid (hld.trans HD2.out)
  have B7 : Hid (Below w0.heap.size w0 w7) := Lib.hid (B6.out.trans hB)
  obtain ⟨U, hU⟩ : ∃ U, U = T.start.light 0 := ⟨_, rfl⟩
  rw [← hU] at hD
  have OU : Hid (Dk.Sole U) := by rw [hU]; exact Lib.hid ⟨OT.out.uniq, OT.out.old, OT.out.made⟩
  have DU : Hid (U.down = false ∧ U.fuse = 0) := by rw [hU]; exact Lib.hid ⟨rfl, rfl⟩
  have D3 := Lib.hid hD
  have hns : name.size ≤ maxLen := by unfold maxLen; omega
  have hst := sync_any _ D3.out.holds (fits_of D3.out.good (by decide) (by decide)) name hns
  rw [HD3.out] at hst
  have HSY := Lib.hid hst; have NS := Lib.hid hns
  have KC := Lib.hid (lasting_cases D3.out.good DU.out.1 DU.out.2 name.data.toList)
  clear hg hld hU hD hB hst hns D2 HD2 B6 HFU OT T
  go_wp2_with fail
  refine HSY.out.mono ?_
  rintro e w8 ⟨rfl, hg⟩
  obtain ⟨L4, hld, hD, hB⟩ := D3.out.goes hg (n' := 121) (m' := 20000) (D3.out.good.sync name.data.toList)
  have HD4 : Hid (L4.d = d) := Lib.hid (hld.trans HD3.out)
  have B8 : Hid (Below w0.heap.size w0 w8) := Lib.hid (B7.out.trans hB)
  have OV : Hid (Dk.Sole (U.sync name.data.toList).2) := Lib.hid (OU.out.sync _)
  unfold errV
  generalize (U.sync name.data.toList).1 = ec at *
  generalize (U.sync name.data.toList).2 = V at *
  have D4 := Lib.hid hD
  have hst := dirSync_any _ D4.out.holds (fits_of D4.out.good (by decide) (by decide)) D4.out.good.cans (sizes_of D4.out.good)
  rw [HD4.out] at hst
  unfold errV at hst
  have HDS := Lib.hid hst
  clear hg hld hD hB hst D3 HD3 B7 HSY OU DU
  have kc := KC.out
  clear KC
  rcases kc with ⟨rfl, k2⟩ | ⟨i, Dt, rfl, k2, k3, k4⟩
  · rw [k2] at HDS
    clear k2
    go_wp2_with fail
    refine HDS.out.mono ?_
    rintro e w9 ⟨rfl, hg⟩
    obtain ⟨L5, hld, hD, hB⟩ := D4.out.goes hg (n' := 122) (m' := 20000) D4.out.good.dirSync
    have B9 : Hid (Below w0.heap.size w0 w9) := Lib.hid (B8.out.trans hB)
    clear hg hld hD hB HDS D4 HD4 B8
    go_wp2_with fail
    refine (HA.out w9).mono ?_
    rintro e w10 ⟨rfl, hb10⟩
    have B10 := Lib.hid (Below.next B9.out hb10); clear hb10
    go_wp2_with fail
    go_ret
    exact ⟨rfl, B0.out.trans (B10.out.mono SZ.out)⟩
  · rw [k2] at HDS
    have KP := Lib.hid k3; have KD := Lib.hid k4
    clear k2 k3 k4
    go_wp2_with fail
    refine HDS.out.mono ?_
    rintro e w9 ⟨rfl, hg⟩
    obtain ⟨L5, hld, hD, hB⟩ := D4.out.goes hg (n' := 122) (m' := 20000) D4.out.good.dirSync
    have B9 : Hid (Below w0.heap.size w0 w9) := Lib.hid (B8.out.trans hB)
    have HD5 : Hid (L5.d = d) := Lib.hid (hld.trans HD4.out)
    have OW : Hid (Dk.Sole V.dirSync.2) := Lib.hid OV.out.dirSync
    generalize V.dirSync.2 = W at *
    have D5 := Lib.hid hD
    have hst := read_any _ D5.out.holds name NS.out
    have hrv : readV W name = .tuple #[.string ⟨Dt.toArray⟩, .int .i64 0] := by unfold readV; rw [keeps_reads KP.out D5.out.good KD.out]
    rw [HD5.out, hrv] at hst
    have HRD := Lib.hid hst
    clear hg hld hD hB hst hrv HDS D4 HD4 B8 OV
    obtain ⟨was, hwas⟩ : ∃ was, was = (⟨Dt.toArray⟩ : ByteArray) := ⟨_, rfl⟩
    rw [← hwas] at HRD
    have HWA := Lib.hid hwas
    clear hwas
    go_wp2_with fail
    refine HRD.out.mono ?_
    rintro e wz ⟨rfl, rfl⟩
    clear HRD
    go_wp2_with fail
    go_loopw [16] (fun z wr => ∃ (k : Nat) (L' : Lay), k ≤ m.length ∧ z = .int .i64 (k : Int) ∧ Hid (L'.d = d ∧ Disc wr w0.heap.size L' (playedOff name W (m.take k)) (122 + k) (20000 + bytesOf (m.take k)) ∧ Keeps name.data.toList i Dt (playedOff name W (m.take k)) ∧ Dk.Sole (playedOff name W (m.take k)) ∧ Below w0.heap.size w0 wr)) (fun z _ => m.length - (intOf z).toNat)
    case atStart => exact ⟨0, L5, by omega, rfl, Lib.hid ⟨HD5.out, D5.out, KP.out, OW.out, B9.out⟩⟩
    case round =>
      obtain ⟨k, L', hk, rfl, HK⟩ := hrel
      by_cases hlt : k < m.length
      · have hlt2 : (k : Int) < m.length := by omega
        obtain ⟨x, hx⟩ : ∃ x, m[k]? = some x := ⟨_, List.getElem?_eq_getElem hlt⟩
        have hsn : playedOff name W (m.take (k + 1)) = if x.a.data.toList ≠ name.data.toList ∧ x.b.data.toList ≠ name.data.toList then (does (playedOff name W (m.take k)) x).1 else playedOff name W (m.take k) := by rw [take_act hx, off_snoc]
        have hbt := bytes_take_le m (k + 1)
        have hbs : bytesOf (m.take (k + 1)) = bytesOf (m.take k) + x.b.size := by rw [take_act hx, bytes_snoc]
        have hAw := A2.out wr HK.out.2.2.2.2
        rcases hAw with ⟨h1, _⟩ | ⟨b, off, cap, h1, hb1, hb2, hc⟩
        · subst h1; simp at hx
        simp only [Value.slice.injEq, true_and] at h1
        obtain ⟨rfl, rfl⟩ := h1
        obtain ⟨hfx, wk, ws, hol, y0, y1, y2, y3, y4, y5, y6⟩ := hc k x hx
        have hbl := LL.out
        have hdo := does_any HK.out.2.1 (by omega) (by omega) x hfx wk ws hol
        rw [HK.out.1] at hdo
        unfold actV at hdo
        have HDO := Lib.hid hdo; have HX := Lib.hid hx; have HFX := Lib.hid hfx; have HSN := Lib.hid hsn; have HBS := Lib.hid hbs
        clear hdo hc hb1 hb2 hol hx hfx hsn hbt hbl hbs
        by_cases hxa : x.a.toList = name.toList
        · have HS2 : Hid (playedOff name W (m.take (k + 1)) = playedOff name W (m.take k)) := by rw [HSN.out, if_neg (by rw [str_eq hxa]; simp)]; exact Lib.hid rfl
          go_wp2_with fail
          go_roundw
          case rel => exact ⟨k + 1, L', by omega, by go_num, Lib.hid ⟨HK.out.1, by rw [HS2.out]; exact HK.out.2.1.mono (by omega) (by have := HBS.out; omega), by rw [HS2.out]; exact HK.out.2.2.1, by rw [HS2.out]; exact HK.out.2.2.2.1, HK.out.2.2.2.2⟩⟩
          case measure => simp [intOf]; omega
        · by_cases hxb : x.b.toList = name.toList
          · have HS2 : Hid (playedOff name W (m.take (k + 1)) = playedOff name W (m.take k)) := by rw [HSN.out, if_neg (by rw [str_eq hxb]; simp)]; exact Lib.hid rfl
            go_wp2_with fail
            go_roundw
            case rel => exact ⟨k + 1, L', by omega, by go_num, Lib.hid ⟨HK.out.1, by rw [HS2.out]; exact HK.out.2.1.mono (by omega) (by have := HBS.out; omega), by rw [HS2.out]; exact HK.out.2.2.1, by rw [HS2.out]; exact HK.out.2.2.2.1, HK.out.2.2.2.2⟩⟩
            case measure => simp [intOf]; omega
          · have hda : x.a.data.toList ≠ name.data.toList := fun e => hxa (by rw [ByteArray.toList_eq, ByteArray.toList_eq]; exact e)
            have hdb : x.b.data.toList ≠ name.data.toList := fun e => hxb (by rw [ByteArray.toList_eq, ByteArray.toList_eq]; exact e)
            have HS2 : Hid (playedOff name W (m.take (k + 1)) = (does (playedOff name W (m.take k)) x).1) := by rw [HSN.out, if_pos ⟨hda, hdb⟩]; exact Lib.hid rfl
            have HNE := Lib.hid (And.intro hda hdb)
            clear hda hdb
            unfold Did at HDO
            go_wp2_with fail
            refine HDO.out.mono ?_
            rintro e w10 ⟨rfl, hg⟩
            obtain ⟨k1, k2, k3, k4, k5⟩ := HK.out
            have hgd : Dk.Good (122 + (k + 1)) (20000 + bytesOf (m.take (k + 1))) (does (playedOff name W (m.take k)) x).1 := by
              have h5 := good_does k2.good x HFX.out.n
              have e3 : 20000 + bytesOf (m.take k) + x.b.size = 20000 + bytesOf (m.take (k + 1)) := by have := HBS.out; omega
              rw [e3] at h5
              exact h5
            obtain ⟨L6, hld, hD, hB⟩ := k2.goes hg (n' := 122 + (k + 1)) (m' := 20000 + bytesOf (m.take (k + 1))) hgd
            have HE : Hid (L6.d = d ∧ Disc w10 w0.heap.size L6 (playedOff name W (m.take (k + 1))) (122 + (k + 1)) (20000 + bytesOf (m.take (k + 1))) ∧ Keeps name.data.toList i Dt (playedOff name W (m.take (k + 1))) ∧ Dk.Sole (playedOff name W (m.take (k + 1))) ∧ Below w0.heap.size w0 w10) := by
              rw [HS2.out]
              exact Lib.hid ⟨hld.trans k1, hD, keeps_does k3 k2.good k4 x HNE.out.1 HNE.out.2, sole_does k4 k2.good x, k5.trans hB⟩
            clear k1 k2 k3 k4 k5 hg hld hD hB HDO HK y0 y1 y2 y3 y4 y5 y6
            go_wp2_with fail
            go_roundw
            case rel => exact ⟨k + 1, L6, by omega, by go_num, HE⟩
            case measure => simp [intOf]; omega
            all_goals (rename_i hbad; simp [hxa, hxb] at hbad)
      · obtain rfl : k = m.length := by omega
        clear hlt
        obtain ⟨k1, k2, k3, k4, k5⟩ := HK.out
        rw [List.take_length] at k2 k3 k4
        have hbl := LL.out
        have hold := (OC.out wr k5).choices k2
        have hn2 : 122 + m.length ≤ 1048576 := by omega
        have hm2 : 20000 + bytesOf m ≤ 1048576 := by omega
        have hst := crash_any wr k2.holds (fits_of k2.good hn2 hm2) k2.good.cans (sizes_of k2.good) vk vs c hold (crash_fits k2.good hn2 hm2 _).1 (crash_fits k2.good hn2 hm2 _).2
        rw [k1, ← HCN.out] at hst
        have HCR := Lib.hid hst
        have K2 := Lib.hid k2; have K3 := Lib.hid k3; have K5 := Lib.hid k5; have K1 := Lib.hid k1
        obtain ⟨x0, x1, x2⟩ := XC.out wr k5
        clear k1 k2 k3 k4 k5 hbl hold hn2 hm2 hst HK
        go_wp2_with fail
        refine HCR.out.mono ?_
        rintro e w10 ⟨rfl, hg⟩
        obtain ⟨L6, hld, hD, hB⟩ := K2.out.goes hg (n' := 122 + m.length + 1) (m' := 20000 + bytesOf m) (K2.out.good.crash c)
        have HD6 : Hid (L6.d = d) := Lib.hid (hld.trans K1.out)
        have D6 := Lib.hid hD
        have B6 : Hid (Below w0.heap.size w0 w10) := Lib.hid (K5.out.trans hB)
        have hst := start_any _ D6.out.holds
        rw [HD6.out] at hst
        have HST := Lib.hid hst
        clear hg hld hD hB hst HCR K1 K5 x0 x1 x2
        go_wp2_with fail
        refine HST.out.mono ?_
        rintro e w11 ⟨rfl, hg⟩
        obtain ⟨L7, hld, hD, hB⟩ := D6.out.goes hg (n' := 122 + m.length + 1) (m' := 20000 + bytesOf m) D6.out.good.start
        have B7 : Hid (Below w0.heap.size w0 w11) := Lib.hid (B6.out.trans hB)
        have hst := read_any _ hD.holds name NS.out
        have hrv : readV ((playedOff name W m).crash c).start name = .tuple #[.string was, .int .i64 0] := by unfold readV; rw [keeps_read K3.out K2.out.good c, HWA.out]
        rw [hld, HD6.out, hrv] at hst
        have HRD := Lib.hid hst
        clear hg hld hD hB hst hrv HST D6 HD6 B6 K2 K3
        go_wp2_with fail
        refine HRD.out.mono ?_
        rintro e wz ⟨rfl, rfl⟩
        go_wp2_with fail
        refine (HA.out wz).mono ?_
        rintro e w12 ⟨rfl, hb12⟩
        have B12 := Lib.hid (Below.next B7.out hb12); clear hb12
        go_wp2_with fail
        go_ret
        exact ⟨rfl, B0.out.trans (B12.out.mono SZ.out)⟩

theorem lasts_walk (room : Int) (a1 : Option Addr) (n1 c1 : Nat) (l : List Act) (a2 : Option Addr) (n2 c2 : Nat) (m : List Act) (name : ByteArray) (c : Dk.Crash) (vk vs : Value) (w : World) (_ : -9223372036854775808 ≤ room ∧ room ≤ 9223372036854775807)
    (h1 : ActsRaw w (.slice a1 n1 c1) l) (h2 : ActsRaw w (.slice a2 n2 c2) m) (_ : name.size ≤ 9223372036854775807) (h3 : Chosen w vk vs c) :
    Calls Try.prog 4 #[.int .i64 room, .slice a1 n1 c1, .slice a2 n2 c2, .string name, .agg #[.int .i64 c.names, vk, vs]] w (Gives (.bool true) w) := by
  cases e1 : greatL l with
  | true => exact lasts_great room a1 n1 c1 l a2 n2 c2 m name c vk vs w h1 h2 h3 (Or.inl e1)
  | false => cases e2 : greatL m with
    | true => exact lasts_great room a1 n1 c1 l a2 n2 c2 m name c vk vs w h1 h2 h3 (Or.inr (Or.inl e2))
    | false => cases e3 : greatC c with
      | true => exact lasts_great room a1 n1 c1 l a2 n2 c2 m name c vk vs w h1 h2 h3 (Or.inr (Or.inr (Or.inl e3)))
      | false =>
        by_cases hn : (100 : Int) < name.size
        · exact lasts_great room a1 n1 c1 l a2 n2 c2 m name c vk vs w h1 h2 h3 (Or.inr (Or.inr (Or.inr hn)))
        · exact lasts_small room a1 n1 c1 l a2 n2 c2 m name c vk vs w h1 h2 h3 e1 e2 e3 (by omega)

end Go.Proofs.Ytagcljokchmpbaa
