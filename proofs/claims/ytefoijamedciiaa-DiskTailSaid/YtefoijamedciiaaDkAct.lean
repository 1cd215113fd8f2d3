/- The walk of the statements' Does over a disk that lies in memory. -/
import Derived.Test.YtefoijamedciiaaDkP
import Derived.Test.YtefoijamedciiaaDkU
namespace Go.Proofs.Ytefoijamedciiaa
open Go.RowKit Go.Maps
open Dk (Dir Chg Disk File Str)

/-- What is done to a disk. -/
structure Act where
  kind : Nat
  a : ByteArray
  b : ByteArray
  n : Int
  crash : Dk.Crash
def does (S : Disk) (x : Act) : Disk × Str × Int := match x.kind with
  | 0 => ((S.create x.a.data.toList).2, [], (S.create x.a.data.toList).1)
  | 1 => ((S.append x.a.data.toList x.b.data.toList).2, [], (S.append x.a.data.toList x.b.data.toList).1)
  | 2 => ((S.sync x.a.data.toList).2, [], (S.sync x.a.data.toList).1)
  | 3 => ((S.rename x.a.data.toList x.b.data.toList).2, [], (S.rename x.a.data.toList x.b.data.toList).1)
  | 4 => ((S.delete x.a.data.toList).2, [], (S.delete x.a.data.toList).1)
  | 5 => (S.dirSync.2, [], S.dirSync.1)
  | 6 => (S.light x.n, [], 0)
  | 7 => (S.crash x.crash, [], 0)
  | 8 => (S.start, [], 0)
  | 9 => (S, (S.read x.a.data.toList).1, (S.read x.a.data.toList).2)
  | _ => (S, [], 0)
theorem good_does {n m : Nat} {S : Disk} (G : Dk.Good n m S) (x : Act) (hn : x.n ≤ 9223372036854775807) : Dk.Good (n + 1) (m + x.b.size) (does S x).1 := by
  unfold does
  split
  · exact (G.create _).mono (Nat.le_refl _) (Nat.le_add_right _ _)
  · have := G.append x.a.data.toList x.b.data.toList
    rw [← Lib.size_eq] at this
    exact this
  · exact (G.sync _).mono (Nat.le_refl _) (Nat.le_add_right _ _)
  · exact (G.rename _ _).mono (Nat.le_refl _) (Nat.le_add_right _ _)
  · exact (G.delete _).mono (Nat.le_refl _) (Nat.le_add_right _ _)
  · exact G.dirSync.mono (Nat.le_refl _) (Nat.le_add_right _ _)
  · exact (G.light _ hn).mono (Nat.le_succ _) (Nat.le_add_right _ _)
  · exact (G.crash _).mono (Nat.le_refl _) (Nat.le_add_right _ _)
  · exact G.start.mono (Nat.le_succ _) (Nat.le_add_right _ _)
  · exact G.mono (Nat.le_succ _) (Nat.le_add_right _ _)
  · exact G.mono (Nat.le_succ _) (Nat.le_add_right _ _)

def crashV (names : Int) (vk vs : Value) : Value := .agg #[.int .i64 names, vk, vs]
def actV (x : Act) (vk vs : Value) : Value := .agg #[.int .u8 (x.kind : Int), .string x.a, .string x.b, .int .i64 x.n, .int .i64 x.crash.names, vk, vs]
/-- A crash's choices lie in memory that is older than a base. -/
structure Older (w : World) (base : Nat) (vk vs : Value) (c : Dk.Crash) : Prop where
  keep : SeesI w vk c.keep
  spoil : SeesQ w vs c.spoil
  keepIn : c.keep ≠ [] → ∀ b, vk.ownBlock = some b → b < base
  spoilIn : c.spoil ≠ [] → ∀ b, vs.ownBlock = some b → b < base
  keepLen : c.keep.length ≤ 1099511627776
  spoilLen : c.spoil.length ≤ 1099511627776
  masks : ∀ q ∈ c.spoil, q.2 ≤ 4294967295
theorem Older.below {w w' : World} {base : Nat} {vk vs : Value} {c : Dk.Crash} (h : Older w base vk vs c) (hb : Below base w w') : Older w' base vk vs c := by
  have ht : Turns (fun k => base ≤ k) w w' := ⟨hb.os, hb.tape, hb.output, hb.size, fun k _ hk => hb.block k (by omega)⟩
  exact ⟨h.keep.turned ht (fun hne b hv => by have := h.keepIn hne b hv; omega), h.spoil.turned ht (fun hne b hv => by have := h.spoilIn hne b hv; omega), h.keepIn, h.spoilIn, h.keepLen, h.spoilLen, h.masks⟩
theorem Older.choices {w : World} {base : Nat} {vk vs : Value} {c : Dk.Crash} (h : Older w base vk vs c) {L : Lay} {S : Disk} {n m : Nat} (D : Disc w base L S n m) : Choices w L vk vs c :=
  ⟨h.keep, h.spoil, fun hne b hv ho => by have := h.keepIn hne b hv; have := D.own b ho; omega, fun hne b hv ho => by have := h.spoilIn hne b hv; have := D.own b ho; omega,
    fun hne b hv => Nat.lt_of_lt_of_le (h.keepIn hne b hv) D.lo, fun hne b hv => Nat.lt_of_lt_of_le (h.spoilIn hne b hv) D.lo, h.keepLen, h.spoilLen, h.masks⟩

/-- What is small enough of an act. -/
structure ActFits (x : Act) : Prop where
  a : x.a.size ≤ 281474976710656
  b : x.b.size ≤ 1099511627776
  n : x.n ≤ 9223372036854775807
  kind : x.kind ≤ 255

/-- What Does answers, and the disk goes on. -/
def Did (L : Lay) (S : Disk) (x : Act) (w : World) (e : Ending) (w' : World) : Prop :=
  e = .returned (.tuple #[.string ⟨(does S x).2.1.toArray⟩, .int .i64 (does S x).2.2]) ∧ Goes L w (does S x).1 w'

theorem Goes.after {w w1 w' : World} {L : Lay} {S' : Disk} (hb : Below w.heap.size w w1) (g : Goes L w1 S' w') : Goes L w S' w' := by
  obtain ⟨L', hld, hh, ht, ho⟩ := g
  exact ⟨L', hld, hh, (Turns.of_below (P := Own L) hb).trans ht (fun _ h => Or.inl h), fun b hb' => (ho b hb').imp id (fun h => Nat.le_trans hb.size h)⟩

set_option maxHeartbeats 8000000 in
set_option maxRecDepth 100000 in
theorem does_0 {w : World} {base : Nat} {L : Lay} {S : Disk} {n m : Nat} (D : Disc w base L S n m) (hn : n ≤ 1048576) (hm : m ≤ 1048576) (x : Act) (hx : ActFits x) (vk vs : Value) (ho : Older w base vk vs x.crash) (hk : x.kind = 0) :
    Calls Try.prog 19 #[.pointer (some ⟨L.d, 0, none⟩), actV x vk vs] w (Did L S x w) := by
  have hbl : Below w.heap.size w (w.alloc (.cells #[.int .u8 (x.kind : Int), .string x.a, .string x.b, .int .i64 x.n, .int .i64 x.crash.names, vk, vs] 45)) := (Below.refl _ _).alloc (Nat.le_refl _) _
  have DA : Hid (Disc (w.alloc (.cells #[.int .u8 (x.kind : Int), .string x.a, .string x.b, .int .i64 x.n, .int .i64 x.crash.names, vk, vs] 45)) base L S n m) := Lib.hid (D.below hbl)
  have OL : Hid (Older (w.alloc (.cells #[.int .u8 (x.kind : Int), .string x.a, .string x.b, .int .i64 x.n, .int .i64 x.crash.names, vk, vs] 45)) base vk vs x.crash) := Lib.hid (ho.below (hbl.mono D.lo))
  have HB := Lib.hid hbl; have HN := Lib.hid hn; have HM := Lib.hid hm; have HX := Lib.hid hx
  clear hbl ho hn hm hx D
  unfold actV
  have HR : Hid (does S x = ((S.create x.a.data.toList).2, [], (S.create x.a.data.toList).1)) := by unfold does; rw [hk]; exact Lib.hid rfl
  have hkq : (x.kind : Int) = 0 := by omega
  rw [hkq] at DA OL HB ⊢
  clear hkq hk
  have HC := Lib.hid (create_any _ DA.out.holds (fits_of DA.out.good HN.out HM.out) x.a HX.out.a)
  obtain ⟨R, hR⟩ : ∃ R, R = does S x := ⟨_, rfl⟩
  unfold Did
  rw [← hR]
  have HRR : Hid (R = ((S.create x.a.data.toList).2, [], (S.create x.a.data.toList).1)) := by rw [hR]; exact HR
  clear hR HR
  go_enter Try.func19, Try.ntmps19
  go_wp2_with fail
  refine HC.out.mono ?_
  rintro e w1 ⟨rfl, hg⟩
  have HG := Lib.hid hg; clear hg HC
  go_wp2_with fail
  go_ret2
  rw [HRR.out]
  exact ⟨rfl, HG.out.after HB.out⟩


set_option maxHeartbeats 8000000 in
set_option maxRecDepth 100000 in
theorem does_1 {w : World} {base : Nat} {L : Lay} {S : Disk} {n m : Nat} (D : Disc w base L S n m) (hn : n ≤ 1048576) (hm : m ≤ 1048576) (x : Act) (hx : ActFits x) (vk vs : Value) (ho : Older w base vk vs x.crash) (hk : x.kind = 1) :
    Calls Try.prog 19 #[.pointer (some ⟨L.d, 0, none⟩), actV x vk vs] w (Did L S x w) := by
  have hbl : Below w.heap.size w (w.alloc (.cells #[.int .u8 (x.kind : Int), .string x.a, .string x.b, .int .i64 x.n, .int .i64 x.crash.names, vk, vs] 45)) := (Below.refl _ _).alloc (Nat.le_refl _) _
  have DA : Hid (Disc (w.alloc (.cells #[.int .u8 (x.kind : Int), .string x.a, .string x.b, .int .i64 x.n, .int .i64 x.crash.names, vk, vs] 45)) base L S n m) := Lib.hid (D.below hbl)
  have OL : Hid (Older (w.alloc (.cells #[.int .u8 (x.kind : Int), .string x.a, .string x.b, .int .i64 x.n, .int .i64 x.crash.names, vk, vs] 45)) base vk vs x.crash) := Lib.hid (ho.below (hbl.mono D.lo))
  have HB := Lib.hid hbl; have HN := Lib.hid hn; have HM := Lib.hid hm; have HX := Lib.hid hx
  clear hbl ho hn hm hx D
  unfold actV
  have HR : Hid (does S x = ((S.append x.a.data.toList x.b.data.toList).2, [], (S.append x.a.data.toList x.b.data.toList).1)) := by unfold does; rw [hk]; exact Lib.hid rfl
  have hkq : (x.kind : Int) = 1 := by omega
  rw [hkq] at DA OL HB ⊢
  clear hkq hk
  have HC := Lib.hid (append_any _ DA.out.holds (fits_of DA.out.good HN.out HM.out) x.a x.b (by have := HX.out.a; unfold maxLen; omega) HX.out.b)
  obtain ⟨R, hR⟩ : ∃ R, R = does S x := ⟨_, rfl⟩
  unfold Did
  rw [← hR]
  have HRR : Hid (R = ((S.append x.a.data.toList x.b.data.toList).2, [], (S.append x.a.data.toList x.b.data.toList).1)) := by rw [hR]; exact HR
  clear hR HR
  go_enter Try.func19, Try.ntmps19
  go_wp2_with fail
  refine HC.out.mono ?_
  rintro e w1 ⟨rfl, hg⟩
  have HG := Lib.hid hg; clear hg HC
  go_wp2_with fail
  go_ret2
  rw [HRR.out]
  exact ⟨rfl, HG.out.after HB.out⟩


set_option maxHeartbeats 8000000 in
set_option maxRecDepth 100000 in
theorem does_2 {w : World} {base : Nat} {L : Lay} {S : Disk} {n m : Nat} (D : Disc w base L S n m) (hn : n ≤ 1048576) (hm : m ≤ 1048576) (x : Act) (hx : ActFits x) (vk vs : Value) (ho : Older w base vk vs x.crash) (hk : x.kind = 2) :
    Calls Try.prog 19 #[.pointer (some ⟨L.d, 0, none⟩), actV x vk vs] w (Did L S x w) := by
  have hbl : Below w.heap.size w (w.alloc (.cells #[.int .u8 (x.kind : Int), .string x.a, .string x.b, .int .i64 x.n, .int .i64 x.crash.names, vk, vs] 45)) := (Below.refl _ _).alloc (Nat.le_refl _) _
  have DA : Hid (Disc (w.alloc (.cells #[.int .u8 (x.kind : Int), .string x.a, .string x.b, .int .i64 x.n, .int .i64 x.crash.names, vk, vs] 45)) base L S n m) := Lib.hid (D.below hbl)
  have OL : Hid (Older (w.alloc (.cells #[.int .u8 (x.kind : Int), .string x.a, .string x.b, .int .i64 x.n, .int .i64 x.crash.names, vk, vs] 45)) base vk vs x.crash) := Lib.hid (ho.below (hbl.mono D.lo))
  have HB := Lib.hid hbl; have HN := Lib.hid hn; have HM := Lib.hid hm; have HX := Lib.hid hx
  clear hbl ho hn hm hx D
  unfold actV
  have HR : Hid (does S x = ((S.sync x.a.data.toList).2, [], (S.sync x.a.data.toList).1)) := by unfold does; rw [hk]; exact Lib.hid rfl
  have hkq : (x.kind : Int) = 2 := by omega
  rw [hkq] at DA OL HB ⊢
  clear hkq hk
  have HC := Lib.hid (sync_any _ DA.out.holds (fits_of DA.out.good HN.out HM.out) x.a (by have := HX.out.a; unfold maxLen; omega))
  obtain ⟨R, hR⟩ : ∃ R, R = does S x := ⟨_, rfl⟩
  unfold Did
  rw [← hR]
  have HRR : Hid (R = ((S.sync x.a.data.toList).2, [], (S.sync x.a.data.toList).1)) := by rw [hR]; exact HR
  clear hR HR
  go_enter Try.func19, Try.ntmps19
  go_wp2_with fail
  refine HC.out.mono ?_
  rintro e w1 ⟨rfl, hg⟩
  have HG := Lib.hid hg; clear hg HC
  go_wp2_with fail
  go_ret2
  rw [HRR.out]
  exact ⟨rfl, HG.out.after HB.out⟩


set_option maxHeartbeats 8000000 in
set_option maxRecDepth 100000 in
theorem does_3 {w : World} {base : Nat} {L : Lay} {S : Disk} {n m : Nat} (D : Disc w base L S n m) (hn : n ≤ 1048576) (hm : m ≤ 1048576) (x : Act) (hx : ActFits x) (vk vs : Value) (ho : Older w base vk vs x.crash) (hk : x.kind = 3) :
    Calls Try.prog 19 #[.pointer (some ⟨L.d, 0, none⟩), actV x vk vs] w (Did L S x w) := by
  have hbl : Below w.heap.size w (w.alloc (.cells #[.int .u8 (x.kind : Int), .string x.a, .string x.b, .int .i64 x.n, .int .i64 x.crash.names, vk, vs] 45)) := (Below.refl _ _).alloc (Nat.le_refl _) _
  have DA : Hid (Disc (w.alloc (.cells #[.int .u8 (x.kind : Int), .string x.a, .string x.b, .int .i64 x.n, .int .i64 x.crash.names, vk, vs] 45)) base L S n m) := Lib.hid (D.below hbl)
  have OL : Hid (Older (w.alloc (.cells #[.int .u8 (x.kind : Int), .string x.a, .string x.b, .int .i64 x.n, .int .i64 x.crash.names, vk, vs] 45)) base vk vs x.crash) := Lib.hid (ho.below (hbl.mono D.lo))
  have HB := Lib.hid hbl; have HN := Lib.hid hn; have HM := Lib.hid hm; have HX := Lib.hid hx
  clear hbl ho hn hm hx D
  unfold actV
  have HR : Hid (does S x = ((S.rename x.a.data.toList x.b.data.toList).2, [], (S.rename x.a.data.toList x.b.data.toList).1)) := by unfold does; rw [hk]; exact Lib.hid rfl
  have hkq : (x.kind : Int) = 3 := by omega
  rw [hkq] at DA OL HB ⊢
  clear hkq hk
  have HC := Lib.hid (rename_any _ DA.out.holds (fits_of DA.out.good HN.out HM.out) (names_of DA.out.good) x.a x.b HX.out.a (by have := HX.out.b; omega))
  obtain ⟨R, hR⟩ : ∃ R, R = does S x := ⟨_, rfl⟩
  unfold Did
  rw [← hR]
  have HRR : Hid (R = ((S.rename x.a.data.toList x.b.data.toList).2, [], (S.rename x.a.data.toList x.b.data.toList).1)) := by rw [hR]; exact HR
  clear hR HR
  go_enter Try.func19, Try.ntmps19
  go_wp2_with fail
  refine HC.out.mono ?_
  rintro e w1 ⟨rfl, hg⟩
  have HG := Lib.hid hg; clear hg HC
  go_wp2_with fail
  go_ret2
  rw [HRR.out]
  exact ⟨rfl, HG.out.after HB.out⟩


set_option maxHeartbeats 8000000 in
set_option maxRecDepth 100000 in
theorem does_4 {w : World} {base : Nat} {L : Lay} {S : Disk} {n m : Nat} (D : Disc w base L S n m) (hn : n ≤ 1048576) (hm : m ≤ 1048576) (x : Act) (hx : ActFits x) (vk vs : Value) (ho : Older w base vk vs x.crash) (hk : x.kind = 4) :
    Calls Try.prog 19 #[.pointer (some ⟨L.d, 0, none⟩), actV x vk vs] w (Did L S x w) := by
  have hbl : Below w.heap.size w (w.alloc (.cells #[.int .u8 (x.kind : Int), .string x.a, .string x.b, .int .i64 x.n, .int .i64 x.crash.names, vk, vs] 45)) := (Below.refl _ _).alloc (Nat.le_refl _) _
  have DA : Hid (Disc (w.alloc (.cells #[.int .u8 (x.kind : Int), .string x.a, .string x.b, .int .i64 x.n, .int .i64 x.crash.names, vk, vs] 45)) base L S n m) := Lib.hid (D.below hbl)
  have OL : Hid (Older (w.alloc (.cells #[.int .u8 (x.kind : Int), .string x.a, .string x.b, .int .i64 x.n, .int .i64 x.crash.names, vk, vs] 45)) base vk vs x.crash) := Lib.hid (ho.below (hbl.mono D.lo))
  have HB := Lib.hid hbl; have HN := Lib.hid hn; have HM := Lib.hid hm; have HX := Lib.hid hx
  clear hbl ho hn hm hx D
  unfold actV
  have HR : Hid (does S x = ((S.delete x.a.data.toList).2, [], (S.delete x.a.data.toList).1)) := by unfold does; rw [hk]; exact Lib.hid rfl
  have hkq : (x.kind : Int) = 4 := by omega
  rw [hkq] at DA OL HB ⊢
  clear hkq hk
  have HC := Lib.hid (delete_any _ DA.out.holds (fits_of DA.out.good HN.out HM.out) (names_of DA.out.good) x.a HX.out.a)
  obtain ⟨R, hR⟩ : ∃ R, R = does S x := ⟨_, rfl⟩
  unfold Did
  rw [← hR]
  have HRR : Hid (R = ((S.delete x.a.data.toList).2, [], (S.delete x.a.data.toList).1)) := by rw [hR]; exact HR
  clear hR HR
  go_enter Try.func19, Try.ntmps19
  go_wp2_with fail
  refine HC.out.mono ?_
  rintro e w1 ⟨rfl, hg⟩
  have HG := Lib.hid hg; clear hg HC
  go_wp2_with fail
  go_ret2
  rw [HRR.out]
  exact ⟨rfl, HG.out.after HB.out⟩


set_option maxHeartbeats 8000000 in
set_option maxRecDepth 100000 in
theorem does_5 {w : World} {base : Nat} {L : Lay} {S : Disk} {n m : Nat} (D : Disc w base L S n m) (hn : n ≤ 1048576) (hm : m ≤ 1048576) (x : Act) (hx : ActFits x) (vk vs : Value) (ho : Older w base vk vs x.crash) (hk : x.kind = 5) :
    Calls Try.prog 19 #[.pointer (some ⟨L.d, 0, none⟩), actV x vk vs] w (Did L S x w) := by
  have hbl : Below w.heap.size w (w.alloc (.cells #[.int .u8 (x.kind : Int), .string x.a, .string x.b, .int .i64 x.n, .int .i64 x.crash.names, vk, vs] 45)) := (Below.refl _ _).alloc (Nat.le_refl _) _
  have DA : Hid (Disc (w.alloc (.cells #[.int .u8 (x.kind : Int), .string x.a, .string x.b, .int .i64 x.n, .int .i64 x.crash.names, vk, vs] 45)) base L S n m) := Lib.hid (D.below hbl)
  have OL : Hid (Older (w.alloc (.cells #[.int .u8 (x.kind : Int), .string x.a, .string x.b, .int .i64 x.n, .int .i64 x.crash.names, vk, vs] 45)) base vk vs x.crash) := Lib.hid (ho.below (hbl.mono D.lo))
  have HB := Lib.hid hbl; have HN := Lib.hid hn; have HM := Lib.hid hm; have HX := Lib.hid hx
  clear hbl ho hn hm hx D
  unfold actV
  have HR : Hid (does S x = (S.dirSync.2, [], S.dirSync.1)) := by unfold does; rw [hk]; exact Lib.hid rfl
  have hkq : (x.kind : Int) = 5 := by omega
  rw [hkq] at DA OL HB ⊢
  clear hkq hk
  have HC := Lib.hid (dirSync_any _ DA.out.holds (fits_of DA.out.good HN.out HM.out) DA.out.good.cans (sizes_of DA.out.good))
  obtain ⟨R, hR⟩ : ∃ R, R = does S x := ⟨_, rfl⟩
  unfold Did
  rw [← hR]
  have HRR : Hid (R = (S.dirSync.2, [], S.dirSync.1)) := by rw [hR]; exact HR
  clear hR HR
  go_enter Try.func19, Try.ntmps19
  go_wp2_with fail
  refine HC.out.mono ?_
  rintro e w1 ⟨rfl, hg⟩
  have HG := Lib.hid hg; clear hg HC
  go_wp2_with fail
  go_ret2
  rw [HRR.out]
  exact ⟨rfl, HG.out.after HB.out⟩


set_option maxHeartbeats 8000000 in
set_option maxRecDepth 100000 in
theorem does_6 {w : World} {base : Nat} {L : Lay} {S : Disk} {n m : Nat} (D : Disc w base L S n m) (hn : n ≤ 1048576) (hm : m ≤ 1048576) (x : Act) (hx : ActFits x) (vk vs : Value) (ho : Older w base vk vs x.crash) (hk : x.kind = 6) :
    Calls Try.prog 19 #[.pointer (some ⟨L.d, 0, none⟩), actV x vk vs] w (Did L S x w) := by
  have hbl : Below w.heap.size w (w.alloc (.cells #[.int .u8 (x.kind : Int), .string x.a, .string x.b, .int .i64 x.n, .int .i64 x.crash.names, vk, vs] 45)) := (Below.refl _ _).alloc (Nat.le_refl _) _
  have DA : Hid (Disc (w.alloc (.cells #[.int .u8 (x.kind : Int), .string x.a, .string x.b, .int .i64 x.n, .int .i64 x.crash.names, vk, vs] 45)) base L S n m) := Lib.hid (D.below hbl)
  have OL : Hid (Older (w.alloc (.cells #[.int .u8 (x.kind : Int), .string x.a, .string x.b, .int .i64 x.n, .int .i64 x.crash.names, vk, vs] 45)) base vk vs x.crash) := Lib.hid (ho.below (hbl.mono D.lo))
  have HB := Lib.hid hbl; have HN := Lib.hid hn; have HM := Lib.hid hm; have HX := Lib.hid hx
  clear hbl ho hn hm hx D
  unfold actV
  have HR : Hid (does S x = (S.light x.n, [], 0)) := by unfold does; rw [hk]; exact Lib.hid rfl
  have hkq : (x.kind : Int) = 6 := by omega
  rw [hkq] at DA OL HB ⊢
  clear hkq hk
  have HC := Lib.hid (fuse_any _ DA.out.holds x.n)
  obtain ⟨R, hR⟩ : ∃ R, R = does S x := ⟨_, rfl⟩
  unfold Did
  rw [← hR]
  have HRR : Hid (R = (S.light x.n, [], 0)) := by rw [hR]; exact HR
  clear hR HR
  go_enter Try.func19, Try.ntmps19
  go_wp2_with fail
  refine HC.out.mono ?_
  rintro e w1 ⟨rfl, hg⟩
  have HG := Lib.hid hg; clear hg HC
  go_wp2_with fail
  go_ret2
  rw [HRR.out]
  exact ⟨rfl, HG.out.after HB.out⟩


set_option maxHeartbeats 8000000 in
set_option maxRecDepth 100000 in
theorem does_7 {w : World} {base : Nat} {L : Lay} {S : Disk} {n m : Nat} (D : Disc w base L S n m) (hn : n ≤ 1048576) (hm : m ≤ 1048576) (x : Act) (hx : ActFits x) (vk vs : Value) (ho : Older w base vk vs x.crash) (hk : x.kind = 7) :
    Calls Try.prog 19 #[.pointer (some ⟨L.d, 0, none⟩), actV x vk vs] w (Did L S x w) := by
  have hbl : Below w.heap.size w (w.alloc (.cells #[.int .u8 (x.kind : Int), .string x.a, .string x.b, .int .i64 x.n, .int .i64 x.crash.names, vk, vs] 45)) := (Below.refl _ _).alloc (Nat.le_refl _) _
  have DA : Hid (Disc (w.alloc (.cells #[.int .u8 (x.kind : Int), .string x.a, .string x.b, .int .i64 x.n, .int .i64 x.crash.names, vk, vs] 45)) base L S n m) := Lib.hid (D.below hbl)
  have OL : Hid (Older (w.alloc (.cells #[.int .u8 (x.kind : Int), .string x.a, .string x.b, .int .i64 x.n, .int .i64 x.crash.names, vk, vs] 45)) base vk vs x.crash) := Lib.hid (ho.below (hbl.mono D.lo))
  have HB := Lib.hid hbl; have HN := Lib.hid hn; have HM := Lib.hid hm; have HX := Lib.hid hx
  clear hbl ho hn hm hx D
  unfold actV
  have HR : Hid (does S x = (S.crash x.crash, [], 0)) := by unfold does; rw [hk]; exact Lib.hid rfl
  have hkq : (x.kind : Int) = 7 := by omega
  rw [hkq] at DA OL HB ⊢
  clear hkq hk
  have HC := Lib.hid (crash_any _ DA.out.holds (fits_of DA.out.good HN.out HM.out) DA.out.good.cans (sizes_of DA.out.good) vk vs x.crash (OL.out.choices DA.out) (crash_fits DA.out.good HN.out HM.out _).1 (crash_fits DA.out.good HN.out HM.out _).2)
  obtain ⟨R, hR⟩ : ∃ R, R = does S x := ⟨_, rfl⟩
  unfold Did
  rw [← hR]
  have HRR : Hid (R = (S.crash x.crash, [], 0)) := by rw [hR]; exact HR
  clear hR HR
  go_enter Try.func19, Try.ntmps19
  go_wp2_with fail
  refine HC.out.mono ?_
  rintro e w1 ⟨rfl, hg⟩
  have HG := Lib.hid hg; clear hg HC
  go_wp2_with fail
  go_ret2
  rw [HRR.out]
  exact ⟨rfl, HG.out.after HB.out⟩


set_option maxHeartbeats 8000000 in
set_option maxRecDepth 100000 in
theorem does_8 {w : World} {base : Nat} {L : Lay} {S : Disk} {n m : Nat} (D : Disc w base L S n m) (hn : n ≤ 1048576) (hm : m ≤ 1048576) (x : Act) (hx : ActFits x) (vk vs : Value) (ho : Older w base vk vs x.crash) (hk : x.kind = 8) :
    Calls Try.prog 19 #[.pointer (some ⟨L.d, 0, none⟩), actV x vk vs] w (Did L S x w) := by
  have hbl : Below w.heap.size w (w.alloc (.cells #[.int .u8 (x.kind : Int), .string x.a, .string x.b, .int .i64 x.n, .int .i64 x.crash.names, vk, vs] 45)) := (Below.refl _ _).alloc (Nat.le_refl _) _
  have DA : Hid (Disc (w.alloc (.cells #[.int .u8 (x.kind : Int), .string x.a, .string x.b, .int .i64 x.n, .int .i64 x.crash.names, vk, vs] 45)) base L S n m) := Lib.hid (D.below hbl)
  have OL : Hid (Older (w.alloc (.cells #[.int .u8 (x.kind : Int), .string x.a, .string x.b, .int .i64 x.n, .int .i64 x.crash.names, vk, vs] 45)) base vk vs x.crash) := Lib.hid (ho.below (hbl.mono D.lo))
  have HB := Lib.hid hbl; have HN := Lib.hid hn; have HM := Lib.hid hm; have HX := Lib.hid hx
  clear hbl ho hn hm hx D
  unfold actV
  have HR : Hid (does S x = (S.start, [], 0)) := by unfold does; rw [hk]; exact Lib.hid rfl
  have hkq : (x.kind : Int) = 8 := by omega
  rw [hkq] at DA OL HB ⊢
  clear hkq hk
  have HC := Lib.hid (start_any _ DA.out.holds)
  obtain ⟨R, hR⟩ : ∃ R, R = does S x := ⟨_, rfl⟩
  unfold Did
  rw [← hR]
  have HRR : Hid (R = (S.start, [], 0)) := by rw [hR]; exact HR
  clear hR HR
  go_enter Try.func19, Try.ntmps19
  go_wp2_with fail
  refine HC.out.mono ?_
  rintro e w1 ⟨rfl, hg⟩
  have HG := Lib.hid hg; clear hg HC
  go_wp2_with fail
  go_ret2
  rw [HRR.out]
  exact ⟨rfl, HG.out.after HB.out⟩


set_option maxHeartbeats 8000000 in
set_option maxRecDepth 100000 in
theorem does_9 {w : World} {base : Nat} {L : Lay} {S : Disk} {n m : Nat} (D : Disc w base L S n m) (hn : n ≤ 1048576) (hm : m ≤ 1048576) (x : Act) (hx : ActFits x) (vk vs : Value) (ho : Older w base vk vs x.crash) (hk : x.kind = 9) :
    Calls Try.prog 19 #[.pointer (some ⟨L.d, 0, none⟩), actV x vk vs] w (Did L S x w) := by
  have hbl : Below w.heap.size w (w.alloc (.cells #[.int .u8 (x.kind : Int), .string x.a, .string x.b, .int .i64 x.n, .int .i64 x.crash.names, vk, vs] 45)) := (Below.refl _ _).alloc (Nat.le_refl _) _
  have DA : Hid (Disc (w.alloc (.cells #[.int .u8 (x.kind : Int), .string x.a, .string x.b, .int .i64 x.n, .int .i64 x.crash.names, vk, vs] 45)) base L S n m) := Lib.hid (D.below hbl)
  have OL : Hid (Older (w.alloc (.cells #[.int .u8 (x.kind : Int), .string x.a, .string x.b, .int .i64 x.n, .int .i64 x.crash.names, vk, vs] 45)) base vk vs x.crash) := Lib.hid (ho.below (hbl.mono D.lo))
  have HB := Lib.hid hbl; have HN := Lib.hid hn; have HM := Lib.hid hm; have HX := Lib.hid hx
  clear hbl ho hn hm hx D
  unfold actV
  have HR : Hid (does S x = (S, (S.read x.a.data.toList).1, (S.read x.a.data.toList).2)) := by unfold does; rw [hk]; exact Lib.hid rfl
  have hkq : (x.kind : Int) = 9 := by omega
  rw [hkq] at DA OL HB ⊢
  clear hkq hk
  have HC := Lib.hid (read_any _ DA.out.holds x.a (by have := HX.out.a; unfold maxLen; omega))
  obtain ⟨R, hR⟩ : ∃ R, R = does S x := ⟨_, rfl⟩
  unfold Did
  rw [← hR]
  have HRR : Hid (R = (S, (S.read x.a.data.toList).1, (S.read x.a.data.toList).2)) := by rw [hR]; exact HR
  clear hR HR
  go_enter Try.func19, Try.ntmps19
  go_wp2_with fail
  refine HC.out.mono ?_
  rintro e w1 ⟨rfl, rfl⟩
  unfold readV
  clear HC
  go_wp2_with fail
  go_ret2
  rw [HRR.out]
  exact ⟨rfl, (Goes.stay DA.out.holds).after HB.out⟩


set_option maxHeartbeats 8000000 in
set_option maxRecDepth 100000 in
theorem does_more {w : World} {base : Nat} {L : Lay} {S : Disk} {n m : Nat} (D : Disc w base L S n m) (hn : n ≤ 1048576) (hm : m ≤ 1048576) (x : Act) (hx : ActFits x) (vk vs : Value) (ho : Older w base vk vs x.crash) (hk : 10 ≤ x.kind) :
    Calls Try.prog 19 #[.pointer (some ⟨L.d, 0, none⟩), actV x vk vs] w (Did L S x w) := by
  have hbl : Below w.heap.size w (w.alloc (.cells #[.int .u8 (x.kind : Int), .string x.a, .string x.b, .int .i64 x.n, .int .i64 x.crash.names, vk, vs] 45)) := (Below.refl _ _).alloc (Nat.le_refl _) _
  have DA : Hid (Disc (w.alloc (.cells #[.int .u8 (x.kind : Int), .string x.a, .string x.b, .int .i64 x.n, .int .i64 x.crash.names, vk, vs] 45)) base L S n m) := Lib.hid (D.below hbl)
  have OL : Hid (Older (w.alloc (.cells #[.int .u8 (x.kind : Int), .string x.a, .string x.b, .int .i64 x.n, .int .i64 x.crash.names, vk, vs] 45)) base vk vs x.crash) := Lib.hid (ho.below (hbl.mono D.lo))
  have HB := Lib.hid hbl; have HN := Lib.hid hn; have HM := Lib.hid hm; have HX := Lib.hid hx
  clear hbl ho hn hm hx D
  unfold actV
  have HR : Hid (does S x = (S, [], 0)) := by
    unfold does
    split <;> first | omega | exact Lib.hid rfl
  have q0 : ((x.kind : Int) == 0) = false := by rw [beq_eq_false_iff_ne]; omega
  have q1 : ((x.kind : Int) == 1) = false := by rw [beq_eq_false_iff_ne]; omega
  have q2 : ((x.kind : Int) == 2) = false := by rw [beq_eq_false_iff_ne]; omega
  have q3 : ((x.kind : Int) == 3) = false := by rw [beq_eq_false_iff_ne]; omega
  have q4 : ((x.kind : Int) == 4) = false := by rw [beq_eq_false_iff_ne]; omega
  have q5 : ((x.kind : Int) == 5) = false := by rw [beq_eq_false_iff_ne]; omega
  have q6 : ((x.kind : Int) == 6) = false := by rw [beq_eq_false_iff_ne]; omega
  have q7 : ((x.kind : Int) == 7) = false := by rw [beq_eq_false_iff_ne]; omega
  have q8 : ((x.kind : Int) == 8) = false := by rw [beq_eq_false_iff_ne]; omega
  have q9 : ((x.kind : Int) == 9) = false := by rw [beq_eq_false_iff_ne]; omega
  obtain ⟨R, hR⟩ : ∃ R, R = does S x := ⟨_, rfl⟩
  unfold Did
  rw [← hR]
  have HRR : Hid (R = (S, [], 0)) := by rw [hR]; exact HR
  clear hR HR
  generalize hkk : (x.kind : Int) = kk at *
  clear hkk hk
  go_enter Try.func19, Try.ntmps19
  go_wp2_with fail
  go_ret2
  rw [HRR.out]
  exact ⟨rfl, (Goes.stay DA.out.holds).after HB.out⟩


/-- What Does makes of a disk of the call's own. -/
theorem does_any {w : World} {base : Nat} {L : Lay} {S : Disk} {n m : Nat} (D : Disc w base L S n m) (hn : n ≤ 1048576) (hm : m ≤ 1048576) (x : Act) (hx : ActFits x) (vk vs : Value) (ho : Older w base vk vs x.crash) :
    Calls Try.prog 19 #[.pointer (some ⟨L.d, 0, none⟩), actV x vk vs] w (Did L S x w) := by
  rcases Nat.lt_or_ge x.kind 10 with h | h
  · rcases (show x.kind = 0 ∨ x.kind = 1 ∨ x.kind = 2 ∨ x.kind = 3 ∨ x.kind = 4 ∨ x.kind = 5 ∨ x.kind = 6 ∨ x.kind = 7 ∨ x.kind = 8 ∨ x.kind = 9 by omega) with h | h | h | h | h | h | h | h | h | h
    · exact does_0 D hn hm x hx vk vs ho h
    · exact does_1 D hn hm x hx vk vs ho h
    · exact does_2 D hn hm x hx vk vs ho h
    · exact does_3 D hn hm x hx vk vs ho h
    · exact does_4 D hn hm x hx vk vs ho h
    · exact does_5 D hn hm x hx vk vs ho h
    · exact does_6 D hn hm x hx vk vs ho h
    · exact does_7 D hn hm x hx vk vs ho h
    · exact does_8 D hn hm x hx vk vs ho h
    · exact does_9 D hn hm x hx vk vs ho h
  · exact does_more D hn hm x hx vk vs ho h

end Go.Proofs.Ytefoijamedciiaa
