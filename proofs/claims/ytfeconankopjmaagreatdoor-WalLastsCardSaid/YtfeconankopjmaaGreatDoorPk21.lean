/- Texts on the program's own functions, several in one: WlA, WlB, WlLogs, WlRet, WlNo. -/
import Derived.Test.YtfeconankopjmaaGreatDoorPk7
import Derived.Test.YtfeconankopjmaaGreatDoorPk12
import Derived.Test.YtfeconankopjmaaGreatDoorPk18
import Derived.Test.YtfeconankopjmaaGreatDoorPk20
import Derived.Test.YtfeconankopjmaaGreatDoorPk25
import Derived.Deep.AppendLies
import Derived.Test.YtfeconankopjmaaGreatDoorPk15
import Derived.Test.YtfeconankopjmaaGreatDoorPk5

/- The walks of wal.nameOf, barred, Begin, N. -/
namespace Go.Proofs.YtfeconankopjmaaGreatDoor
set_option linter.unusedVariables false
open Go.RowKit Go.Maps
open Dk (Dir Chg Disk File Str)

/-- What the listed variables hold, in every world that has turned from a base on only. -/
def Knows (base : Nat) (w : World) : Prop := ∀ W, Below base w W → Lib.TabIs Tryz.prog W "internal/strconv.uint64pow10" .u64 Lib.pow10Tab ∧
  (∃ e0, W.cell? ⟨0, 0, none⟩ = some e0 ∧ (e0 = .nilIface ∨ ∃ te pe, e0 = .iface te pe)) ∧ (∃ e1, W.cell? ⟨1, 0, none⟩ = some e1 ∧ (e1 = .nilIface ∨ ∃ te pe, e1 = .iface te pe)) ∧ Tab W
theorem Knows.next {base : Nat} {w w' : World} (h : Knows base w) (hb : Below base w w') : Knows base w' := fun W hW => h W (hb.trans hW)
theorem Knows.here {base : Nat} {w : World} (h : Knows base w) : Tab w := (h w (Below.refl _ _)).2.2.2
theorem Knows.pow {base : Nat} {w : World} (h : Knows base w) : Lib.TabIs Tryz.prog w "internal/strconv.uint64pow10" .u64 Lib.pow10Tab := (h w (Below.refl _ _)).1
theorem Knows.alloc {base : Nat} {w : World} (h : Knows base w) (hb : base ≤ w.heap.size) (o : Obj) : Knows base (w.alloc o) := h.next ((Below.refl _ _).alloc hb o)
theorem Knows.number {base : Nat} {w : World} (h : Knows base w) (hb : base ≤ w.heap.size) (s : ByteArray) (hs : s.size ≤ 1000) :
    Calls Tryz.prog 46 #[.string ⟨#[108, 111, 103]⟩, .string s] w (Gives (numV (Nn.num Wl.word s.data.toList)) w) := by
  obtain ⟨_, ⟨e0, v0, j0⟩, ⟨e1, v1, j1⟩, _⟩ := h w (Below.refl _ _)
  exact number_any ⟨#[108, 111, 103]⟩ s w (by decide) hs (fun W hW => (h W (hW.mono hb)).1) e0 e1 v0 v1 j0 j1
/-- Whatever a call owns that began at a greater base is as if it had begun there. -/
theorem Goes.trans {L L1 : Lay} {w w1 w2 : World} {S2 : Disk} (hld : L1.d = L.d) (ht : Turns (Own L) w w1) (ho : ∀ b, Own L1 b → Own L b ∨ w.heap.size ≤ b) (g : Goes L1 w1 S2 w2) : Goes L w S2 w2 := by
  obtain ⟨L2, hd2, hh2, ht2, ho2⟩ := g
  refine ⟨L2, hd2.trans hld, hh2, ht.trans ht2 fun b hb => ho b hb, fun b hb => ?_⟩
  rcases ho2 b hb with h | h
  · exact ho b h
  · exact Or.inr (Nat.le_trans ht.size h)
theorem Goes.below {L : Lay} {w w1 w2 : World} {S : Disk} (g : Goes L w S w1) (hb : Below w1.heap.size w1 w2) : Goes L w S w2 := by
  obtain ⟨L1, hd, hh, ht, ho⟩ := g
  exact ⟨L1, hd, hh.below hb, ht.trans (Turns.of_below (P := fun _ => False) hb) (fun _ hx => hx.elim), ho⟩
theorem Goes.kept {L : Lay} {w w' : World} {S : Disk} (g : Goes L w S w') {k : Nat} (hk : k < w.heap.size) (hn : ¬ Own L k) : w'.heap[k]? = w.heap[k]? := by
  obtain ⟨L1, _, _, ht, _⟩ := g
  exact ht.block k hk hn

theorem log_eq : (⟨#[108, 111, 103]⟩ : ByteArray).data.toList = Wl.word := rfl
set_option maxHeartbeats 1000000 in
set_option maxRecDepth 100000 in
theorem nameOf_any (N : Nat) (w : World) (hN : N < 18446744073709551616) (htab : Lib.TabIs Tryz.prog w "internal/strconv.uint64pow10" .u64 Lib.pow10Tab) :
    Calls Tryz.prog 39 #[.int .u64 N] w (Gives (.string ⟨(Wl.nm N).toArray⟩) w) := by
  have H := Lib.hid (name_any ⟨#[108, 111, 103]⟩ N w (by decide) hN htab)
  clear htab
  go_enter Tryz.func39, Tryz.ntmps39
  go_wp2_with fail
  refine H.out.mono ?_
  rintro e w1 ⟨rfl, hb⟩
  go_wp2_with fail
  go_ret
  exact ⟨rfl, hb⟩
theorem nm_length {N : Nat} (hN : N < 18446744073709551616) : (Wl.nm N).length ≤ 24 ∧ 12 ≤ (Wl.nm N).length := by
  have h := Nn.digs_length hN
  unfold Wl.nm Nn.name
  rw [List.length_append, List.length_cons]
  have : Wl.word.length = 3 := rfl
  omega
theorem nm_size {N : Nat} (hN : N < 18446744073709551616) : (⟨(Wl.nm N).toArray⟩ : ByteArray).size ≤ 24 := by
  have h := (nm_length hN).1
  simpa [ByteArray.size] using h

theorem fits_wide {n m : Nat} {S : Disk} (G : Dk.Good n m S) (hn : n ≤ 4000) (hm : m ≤ 100000000) : Fits S := by
  have h : n * m ≤ 4000 * 100000000 := Nat.mul_le_mul hn hm
  have h1 := G.least
  have h2 := G.most
  have h3 := G.nowLen
  have h4 := G.count
  exact ⟨G.fuse, by omega, by omega, by omega, G.room0, G.room, by omega, by omega, fun i => by have := G.dat i; omega⟩
theorem crash_wide {n m : Nat} {S : Disk} (G : Dk.Good n m S) (hn : n ≤ 4000) (hm : m ≤ 100000000) (k : Int) :
    (Dk.runs (S.changes.take (Dk.held k S.changes.length).toNat) S.lasting).length ≤ 1099511627776 ∧ ∃ B, (∀ i, (S.file i).data.length ≤ B) ∧ (Dk.runs (S.changes.take (Dk.held k S.changes.length).toNat) S.lasting).length * B ≤ 1152921504606846976 := by
  have h1 := Dk.length_runs (S.changes.take (Dk.held k S.changes.length).toNat) S.lasting
  have h4 := G.count
  rw [List.length_take] at h1
  have h5 : (Dk.runs (S.changes.take (Dk.held k S.changes.length).toNat) S.lasting).length ≤ 4000 := by omega
  have h : (Dk.runs (S.changes.take (Dk.held k S.changes.length).toNat) S.lasting).length * m ≤ 4000 * 100000000 := Nat.mul_le_mul h5 hm
  exact ⟨by omega, m, G.dat, by omega⟩

/-- A disk that can be asked answers ErrNone for no name. -/
theorem look_empty {n m : Nat} {S : Disk} (G : Dk.Good n m S) : Dk.look [] S.now = none := by
  cases h : Dk.look [] S.now with
  | none => rfl
  | some i => exact absurd rfl (names_of G _ (Dk.mem_of_look h))
def wbarV (S : Disk) : Value := .int .i64 (if S.down then 7 else 0)
set_option maxHeartbeats 1000000 in
set_option maxRecDepth 100000 in
theorem wbarred_any {L : Lay} {S : Disk} {n m : Nat} (w : World) (h : Holds w L S) (G : Dk.Good n m S) :
    Calls Tryz.prog 48 #[.pointer (some ⟨L.d, 0, none⟩)] w fun e w' => e = .returned (wbarV S) ∧ w' = w := by
  have H := read_any w h ⟨#[]⟩ (by decide)
  cases hd : S.down with
  | true =>
    have e : readV S ⟨#[]⟩ = .tuple #[.string ⟨#[]⟩, .int .i64 7] := by unfold readV Disk.read; rw [if_pos hd]
    have HV : Hid (wbarV S = .int .i64 7) := Lib.hid (by unfold wbarV; rw [if_pos hd])
    rw [e] at H
    replace H := Lib.hid H
    clear h e hd
    go_enter Tryz.func48, Tryz.ntmps48
    go_wp2_with fail
    refine H.out.mono ?_
    rintro e w1 ⟨rfl, rfl⟩
    go_wp2_with fail
    go_ret
    rw [HV.out]
    exact ⟨rfl, rfl⟩
  | false =>
    have e : readV S ⟨#[]⟩ = .tuple #[.string ⟨#[]⟩, .int .i64 4] := by
      have hl : Dk.look (⟨#[]⟩ : ByteArray).data.toList S.now = none := look_empty G
      unfold readV Disk.read
      rw [if_neg (by simp [hd]), hl]
    have HV : Hid (wbarV S = .int .i64 0) := Lib.hid (by unfold wbarV; rw [if_neg (by simp [hd])])
    rw [e] at H
    replace H := Lib.hid H
    clear h e hd
    go_enter Tryz.func48, Tryz.ntmps48
    go_wp2_with fail
    refine H.out.mono ?_
    rintro e w1 ⟨rfl, rfl⟩
    go_wp2_with fail
    go_ret
    rw [HV.out]
    exact ⟨rfl, rfl⟩

end Go.Proofs.YtfeconankopjmaaGreatDoor

/- The walks of wal.Begin and N. -/
namespace Go.Proofs.YtfeconankopjmaaGreatDoor
set_option linter.unusedVariables false
open Go.RowKit Go.Maps
open Dk (Dir Chg Disk File Str)

def logCells (d N : Nat) : Array Value := #[.int .u64 N, .func (.func 41) #[.pointer (some ⟨d, 0, none⟩)] #[], .func (.func 42) #[.pointer (some ⟨d, 0, none⟩)] #[]]
/-- A log of a disk and a number lies there. -/
def LogAt (w : World) (g d N : Nat) : Prop := w.heap[g]? = some (.cells (logCells d N) 95 (0, 0))
theorem LogAt.below {w w' : World} {g d N : Nat} (h : LogAt w g d N) (hb : Below w.heap.size w w') : LogAt w' g d N := (hb.block g (heap_lt h)).trans h

/-- A log was begun, or not. -/
def Begun (L : Lay) (R : Int × Disk) (N : Nat) (w : World) (e : Ending) (w' : World) : Prop :=
  ∃ p, e = .returned (.tuple #[.pointer p, errV R.1]) ∧ ∃ L' : Lay, L'.d = L.d ∧ Holds w' L' R.2 ∧ Turns (Own L) w w' ∧ (∀ b, Own L' b → Own L b ∨ w.heap.size ≤ b) ∧
    ((R.1 = 0 ∧ ∃ g, p = some ⟨g, 0, none⟩ ∧ LogAt w' g L.d N ∧ w.heap.size ≤ g ∧ ¬ Own L' g) ∨ (R.1 ≠ 0 ∧ p = none))

set_option maxHeartbeats 2000000 in
set_option maxRecDepth 100000 in
theorem begin_any {L : Lay} {S : Disk} {n m base : Nat} (w : World) (h : Holds w L S) (G : Dk.Good n m S) (hn : n < 4000) (hm : m ≤ 100000000) (N : Nat) (hN : N < 18446744073709551616) (K : Knows base w) :
    Calls Tryz.prog 9 #[.pointer (some ⟨L.d, 0, none⟩), .int .u64 N] w (Begun L (Wl.beg S N) N w) := by
  have hmf : ∀ (fn : Fn) (first cap : Array Value) (w : World), (Instr.makeFunc fn first cap).run Tryz.prog w = .ok (.func fn first cap) w := fun _ _ _ _ => rfl
  have HNM := Lib.hid (nameOf_any N w hN K.pow)
  have hs := nm_size hN
  have HC := Lib.hid (fun (w1 : World) (hb : Below w.heap.size w w1) => (show Calls _ _ _ w1 (fun e w' => e = .returned (errV (S.create (Wl.nm N)).1) ∧ Goes L w1 (S.create (Wl.nm N)).2 w') from create_any w1 (h.below hb) (fits_wide G (by omega) hm) ⟨(Wl.nm N).toArray⟩ (by omega)))
  have G1 : Dk.Good (n + 1) m (S.create (Wl.nm N)).2 := G.create _
  obtain ⟨R, hR⟩ : ∃ R, R = Wl.beg S N := ⟨_, rfl⟩
  rw [← hR]
  unfold Wl.beg at hR
  obtain ⟨str, hstr⟩ : ∃ str, str = (⟨(Wl.nm N).toArray⟩ : ByteArray) := ⟨_, rfl⟩
  rw [← hstr] at HNM HC
  generalize S.create (Wl.nm N) = X at *
  obtain ⟨E, T⟩ := X
  have HG1 := Lib.hid G1; clear G1
  clear K hstr hs G h
  dsimp only at hR HC HG1
  by_cases h0 : E = 0
  · subst h0
    rw [if_pos rfl] at hR
    have HR := Lib.hid hR; clear hR
    go_enter Tryz.func9, Tryz.ntmps9
    go_wp2_with fail
    refine HNM.out.mono ?_
    rintro e w1 ⟨rfl, hb1⟩
    have HB1 := Lib.hid hb1; clear hb1
    go_wp2_with fail
    refine (HC.out _ HB1.out).mono ?_
    rintro e w2 ⟨rfl, L2, hd2, hh2, ht2, ho2⟩
    unfold errV
    have HD := Lib.hid (dirSync_any w2 hh2 (fits_wide HG1.out (by omega) hm) HG1.out.cans (sizes_of HG1.out))
    rw [hd2] at HD
    have HW := Lib.hid (And.intro hd2 (And.intro ht2 ho2))
    generalize T.dirSync = Y at *
    obtain ⟨E2, T2⟩ := Y
    dsimp only at HD HR
    clear hd2 ht2 ho2 hh2
    by_cases h2 : E2 = 0
    · subst h2
      go_wp2_with fail
      refine HD.out.mono ?_
      rintro e w3 ⟨rfl, L3, hd3, hh3, ht3, ho3⟩
      unfold errV
      have HX := Lib.hid (And.intro hd3 (And.intro hh3 (And.intro ht3 ho3)))
      clear hd3 hh3 ht3 ho3
      go_wp2_with fail
      go_ret2
      have g0 : Goes L w T2 w3 := (Goes.trans HW.out.1 HW.out.2.1 HW.out.2.2 ⟨L3, HX.out⟩).after HB1.out
      obtain ⟨L4, hd4, hh4, ht4, ho4⟩ := g0
      obtain rfl := HR.out
      exact ⟨some ⟨w3.heap.size, 0, none⟩, rfl, L4, hd4, hh4.alloc _, ht4.alloc _, ho4, Or.inl ⟨rfl, w3.heap.size, rfl, heap_alloc_new w3 _, ht4.size, fun h => absurd (hh4.own_lt h) (Nat.lt_irrefl _)⟩⟩
    · go_wp2_with fail
      refine HD.out.mono ?_
      rintro e w3 ⟨rfl, L3, hd3, hh3, ht3, ho3⟩
      unfold errV
      have HX := Lib.hid (And.intro hd3 (And.intro hh3 (And.intro ht3 ho3)))
      clear hd3 hh3 ht3 ho3
      go_wp2_with fail
      go_ret2
      have g0 : Goes L w T2 w3 := (Goes.trans HW.out.1 HW.out.2.1 HW.out.2.2 ⟨L3, HX.out⟩).after HB1.out
      obtain ⟨L4, hd4, hh4, ht4, ho4⟩ := g0
      obtain rfl := HR.out
      exact ⟨none, rfl, L4, hd4, hh4, ht4, ho4, Or.inr ⟨h2, rfl⟩⟩
  · rw [if_neg h0] at hR
    have HR := Lib.hid hR; clear hR
    go_enter Tryz.func9, Tryz.ntmps9
    go_wp2_with fail
    refine HNM.out.mono ?_
    rintro e w1 ⟨rfl, hb1⟩
    have HB1 := Lib.hid hb1; clear hb1
    go_wp2_with fail
    refine (HC.out _ HB1.out).mono ?_
    rintro e w2 ⟨rfl, L2, hd2, hh2, ht2, ho2⟩
    unfold errV
    have HW := Lib.hid (And.intro hd2 (And.intro hh2 (And.intro ht2 ho2)))
    clear hd2 ht2 ho2 hh2
    go_wp2_with fail
    go_ret2
    have g0 : Goes L w T w2 := Goes.after HB1.out ⟨L2, HW.out⟩
    obtain ⟨L4, hd4, hh4, ht4, ho4⟩ := g0
    obtain rfl := HR.out
    exact ⟨none, rfl, L4, hd4, hh4, ht4, ho4, Or.inr ⟨h0, rfl⟩⟩

set_option maxHeartbeats 1000000 in
set_option maxRecDepth 100000 in
theorem N_any (w : World) (g d N : Nat) (h : LogAt w g d N) : Calls Tryz.prog 14 #[.pointer (some ⟨g, 0, none⟩)] w fun e w' => e = .returned (.int .u64 N) ∧ w' = w := by
  have c0 : w.cell? ⟨g, 0, none⟩ = some (.int .u64 N) := by rw [cell_of h]; rfl
  clear h
  go_enter Tryz.func14, Tryz.ntmps14
  go_wp2_with fail
  go_ret
  exact ⟨rfl, rfl⟩
set_option maxHeartbeats 1000000 in
set_option maxRecDepth 100000 in
theorem N_nil (w : World) : Calls Tryz.prog 14 #[.pointer none] w fun e w' => e = .returned (.int .u64 0) ∧ w' = w := by
  go_enter Tryz.func14, Tryz.ntmps14
  go_wp2_with fail
  go_ret
  exact ⟨rfl, rfl⟩

end Go.Proofs.YtfeconankopjmaaGreatDoor

/- The walk of wal.Logs over a disk that lies in memory, its numbers rising. -/
namespace Go.Proofs.YtfeconankopjmaaGreatDoor
set_option linter.unusedVariables false
open Go.RowKit Go.Maps
open Dk (Dir Chg Disk File Str)

theorem info_num : (Tryz.prog.info? 28).map (fun i => (i.zero, i.size, i.bytes)) = some (some (.int .u64 0), 1, 8) := by kernel_rfl
def numCells (l : List Nat) : List Value := l.map fun n => .int .u64 (n : Nat)
theorem nums_more {d : Dir} {k : Nat} {p : Str × Nat} (h : d[k]? = some p) : Wl.nums (d.take (k + 1)) = Wl.nums (d.take k) ++ (match Nn.num Wl.word p.1 with | some n => [n] | none => []) := by
  rw [List.take_add_one, h]
  unfold Wl.nums
  rw [List.filterMap_append]
  congr 1
  simp only [Option.toList_some, List.filterMap_cons, List.filterMap_nil]
  cases Nn.num Wl.word p.1 <;> rfl
theorem nums_length (d : Dir) : (Wl.nums d).length ≤ d.length := List.length_filterMap_le ..
theorem nums_lt {d : Dir} : ∀ n ∈ Wl.nums d, n < 18446744073709551616 := by
  intro n hn
  unfold Wl.nums at hn
  obtain ⟨p, _, h⟩ := List.mem_filterMap.1 hn
  exact (Nn.num_some h).2
/-- Numbers that rise. -/
def Rise : List Nat → Prop
  | [] => True
  | [_] => True
  | a :: b :: l => a ≤ b ∧ Rise (b :: l)
theorem Rise.at {l : List Nat} (h : Rise l) : ∀ i, i + 1 < l.length → l.getD i 0 ≤ l.getD (i + 1) 0 := by
  induction l with
  | nil => intro i hi; simp at hi
  | cons a l ih =>
    cases l with
    | nil => intro i hi; simp at hi
    | cons b l =>
      intro i hi
      cases i with
      | zero => exact h.1
      | succ i => exact ih h.2 i (by simpa using hi)
/-- Sorting a row of the call's own that rises already. -/
theorem sort_row (w : World) (base : Nat) (v : Value) (us : List Nat) (h : w.ownsRow base 28 1 v us.length (numCells us)) (hr : Rise us) (hn : us.length ≤ 400) : Calls Tryz.prog 47 #[v] w (Gives (.tuple #[]) w) := by
  have hc := fun (g : Nat) (hv : v.ownBlock = some g) => h.cells (g := g) hv
  have hlt := fun (g : Nat) (hv : v.ownBlock = some g) => ownsRow_lt h hv
  rcases h.2 with ⟨rfl, h0⟩ | ⟨g, cap, cur, rfl, _⟩
  · exact sort_nil w
  · refine sort_up w g us.length cap (fun i => us.getD i 0) ⟨fun i hi => ?_, hr.at, hlt g rfl⟩ (by omega)
    have h1 := hc g rfl i (.int .u64 (us.getD i 0 : Nat)) (by
      unfold numCells
      rw [List.getElem?_map, List.getElem?_eq_getElem hi]
      simp [hi])
    have e : (⟨g, 0, none⟩ : Addr).add i = ⟨g, i, none⟩ := by unfold Addr.add; split <;> simp_all
    rw [e] at h1
    exact h1

set_option maxHeartbeats 8000000 in
set_option maxRecDepth 100000 in
theorem logs_any {L : Lay} {S : Disk} {n m base : Nat} (w : World) (h : Holds w L S) (G : Dk.Good n m S) (hn : n ≤ 4000) (hm : m ≤ 100000000) (K : Knows base w) (hbase : base ≤ w.heap.size) (hr : Rise (Wl.nums S.now)) (hfew : (Wl.nums S.now).length ≤ 400) :
    Calls Tryz.prog 12 #[.pointer (some ⟨L.d, 0, none⟩)] w fun e w' => ∃ v, e = .returned v ∧ w'.ownsRow w.heap.size 28 1 v (Wl.nums S.now).length (numCells (Wl.nums S.now)) ∧ Below w.heap.size w w' := by
  obtain ⟨i0, hi, hz0, hz1, hz2⟩ := info_parts info_num
  have HL := Lib.hid (list_any w h (fits_wide G hn hm) (fun p hp => by have := (G.nowNames p hp).2; omega))
  have HNU := Lib.hid (fun W (hb : Below w.heap.size w W) (s : ByteArray) (hs : s.size ≤ 1000) => Knows.number (K.next (hb.mono hbase)) (Nat.le_trans hbase hb.size) s hs)
  have HSZ := Lib.hid (fun p (hp : p ∈ S.now) => (G.nowNames p hp).2)
  have HR := Lib.hid (And.intro hr hfew)
  obtain ⟨q, hq⟩ : ∃ q, q = S.now.length := ⟨_, rfl⟩
  have hq2 : (q : Int) ≤ 1048576 := by have := G.nowLen; omega
  rw [← hq] at HL
  have HQ := Lib.hid hq
  generalize S.now = D at *
  clear h G K hbase hr hfew hq hn hm
  go_enter Tryz.func12, Tryz.ntmps12
  go_wp2_with fail
  refine HL.out.mono ?_
  rintro e w1 ⟨v, rfl, hrow, hb⟩
  obtain ⟨ao, cap, rfl⟩ := row_shape hrow
  have HB1 := Lib.hid hb
  have HRW := Lib.hid hrow
  clear hrow hb HL
  go_wp2_with fail
  go_loopw [3, 11] (fun u z wr => ∃ (k : Nat) (us : List Nat), k ≤ q ∧ z = .int .i64 (k : Int) ∧ Hid (us = Wl.nums (D.take k) ∧ us.length ≤ k ∧ wr.ownsRow w.heap.size 9 1 (.slice ao q cap) q (D.map fun p => strV p.1) ∧ wr.ownsRow w.heap.size 28 1 u us.length (numCells us) ∧ Below w.heap.size w wr)) (fun _ z _ => q - (intOf z).toNat)
  case atStart => exact ⟨0, [], by omega, rfl, Lib.hid ⟨rfl, Nat.le_refl _, HRW.out, World.ownsRow_nil .., HB1.out⟩⟩
  case round =>
    obtain ⟨k, us, hk, rfl, HK⟩ := hrel
    clear HRW HB1
    by_cases hlt : k < q
    · have hlt2 : (k : Int) < q := by omega
      obtain ⟨p, hp⟩ : ∃ p, D[k]? = some p := ⟨_, List.getElem?_eq_getElem (by have := HQ.out; omega)⟩
      obtain ⟨g, hg, c0⟩ := row_at HK.out.2.2.1 (k := k) (v := strV p.1) (by rw [List.getElem?_map, hp]; rfl) hlt
      subst hg
      have hsz := HSZ.out p (List.mem_of_getElem? hp)
      have hmore := nums_more hp
      have HNN := Lib.hid (fun W (hb : Below w.heap.size w W) => HNU.out W hb ⟨p.1.toArray⟩ (by show (⟨p.1.toArray⟩ : ByteArray).size ≤ _; simp [ByteArray.size]; omega))
      have e2 : (⟨p.1.toArray⟩ : ByteArray).data.toList = p.1 := rfl
      rw [e2] at HNN
      clear e2 hsz
      unfold strV at c0
      generalize (⟨p.1.toArray⟩ : ByteArray) = str at *
      cases hn : Nn.num Wl.word p.1 with
      | none =>
        rw [hn] at HNN hmore
        unfold numV at HNN
        have HMO := Lib.hid hmore
        clear hn hmore hp
        go_wp2_with fail
        refine (HNN.out _ HK.out.2.2.2.2).mono ?_
        rintro e w2 ⟨rfl, hb2⟩
        have HB2 := Lib.hid hb2; clear hb2 c0
        go_wp2_with fail
        go_roundw
        case rel => exact ⟨k + 1, us, by omega, by go_num, Lib.hid ⟨by rw [HMO.out, List.append_nil]; exact HK.out.1, by have := HK.out.2.1; omega, ownsRow_below HK.out.2.2.1 HB2.out, ownsRow_below HK.out.2.2.2.1 HB2.out, Below.next HK.out.2.2.2.2 HB2.out⟩⟩
        case measure => simp [intOf]; omega
      | some N =>
        rw [hn] at HNN hmore
        unfold numV at HNN
        have HMO := Lib.hid hmore
        clear hn hmore hp
        go_wp2_with fail
        refine (HNN.out _ HK.out.2.2.2.2).mono ?_
        rintro e w2 ⟨rfl, hb2⟩
        have HB2 := Lib.hid hb2; clear hb2 c0
        have hraw := ownsRow_below HK.out.2.2.2.1 HB2.out
        have hb0 := Below.next HK.out.2.2.2.2 HB2.out
        have hsz := hb0.size
        have HUL : Hid (us.length ≤ 1048576) := Lib.hid (by have := HK.out.2.1; omega)
        have HRW := Lib.hid (ownsRow_below HK.out.2.2.1 HB2.out)
        go_wp2_with (at_builtin; go_must (refine wpList_append_own _ rfl _ _ 34 rfl w.heap.size 28 i0 _ 1 8 Tryz.underlying34 hi hz0 hz1 hz2 rfl (by decide) _ _ _ rfl (hraw.alloc _) ⟨w2.heap.size, 0, none⟩ 1 1 [_] rfl rfl (World.news_of_block (cs := #[_]) (fr := (0, 0)) (heap_alloc_new w2 _)) ?c2 ?c3 ?c4 ?c5 ?_))
        case c2 => intro u hu; simp at hu; subst hu; rfl
        case c3 => have := HUL.out; unfold maxLen; omega
        case c4 => have := HUL.out; omega
        case c5 => simp; omega
        intro v2 w3 hown2 hgrow2 _
        have hb3 : Below w.heap.size w w3 := (hb0.alloc hsz _).grown hgrow2 (by simp; omega) (fun q hq => (hraw.lt q hq).1)
        obtain ⟨W, hW⟩ : ∃ W, W = w2.alloc (.cells #[.int .u64 (N : Nat)] 28) := ⟨_, rfl⟩
        have hbw : Below w2.heap.size w2 W := by rw [hW]; exact (Below.refl _ _).alloc (Nat.le_refl _) _
        have hrw : W.ownsRow w.heap.size 28 1 u3 us.length (numCells us) := by rw [hW]; exact hraw.alloc _
        rw [← hW] at hgrow2
        have hrs := ownsRow_below HRW.out hbw
        have R1 : w3.ownsRow w.heap.size 28 1 v2 (us ++ [N]).length (numCells (us ++ [N])) ∧ w3.ownsRow w.heap.size 9 1 (.slice (some ⟨g, 0, none⟩) q cap) q (D.map fun p => strV p.1) := by
          refine ⟨?_, ?_⟩
          · unfold numCells
            rw [List.length_append, List.map_append]
            exact hown2
          · refine ownsRow_frame hrs fun b hb => hgrow2.block b (ownsRow_lt hrs hb) fun e => ?_
            obtain ⟨cur, hc⟩ := ownsRow_obj hrs hb
            obtain ⟨cur2, hc2⟩ := ownsRow_obj hrw e.symm
            rw [hc] at hc2
            simp only [Option.some.injEq, Obj.cells.injEq] at hc2
            exact absurd hc2.2.1 (by decide)
        have HR1 := Lib.hid R1; have HB3 := Lib.hid hb3
        clear R1 hb3 hown2 hgrow2 hraw hbw hb0 hsz hW hrw hrs
        go_wp2_with fail
        go_roundw
        case rel => exact ⟨k + 1, us ++ [N], by omega, by go_num, Lib.hid ⟨by rw [HMO.out, ← HK.out.1], by rw [List.length_append]; have := HK.out.2.1; simp; omega, HR1.out.2, HR1.out.1, HB3.out⟩⟩
        case measure => simp [intOf]; omega
    · obtain rfl : k = q := by omega
      have hlt2 : ¬ ((k : Nat) : Int) < (k : Nat) := by omega
      have HE : Hid (us = Wl.nums D) := Lib.hid (by rw [HK.out.1, HQ.out, List.take_length])
      have HSO := Lib.hid (sort_row wr w.heap.size u3 us HK.out.2.2.2.1 (by rw [HE.out]; exact HR.out.1) (by rw [HE.out]; exact HR.out.2))
      go_wp2_with fail
      refine HSO.out.mono ?_
      rintro e w2 ⟨rfl, hb2⟩
      have HB2 := Lib.hid hb2; clear hb2
      go_wp2_with fail
      go_ret
      rw [← HE.out]
      exact ⟨_, rfl, ownsRow_below HK.out.2.2.2.1 HB2.out, Below.next HK.out.2.2.2.2 HB2.out⟩

end Go.Proofs.YtfeconankopjmaaGreatDoor

/- The walk of wal.Retire over a disk that lies in memory. -/
namespace Go.Proofs.YtfeconankopjmaaGreatDoor
set_option linter.unusedVariables false
open Go.RowKit Go.Maps
open Dk (Dir Chg Disk File Str)

theorem dels_end (S : Disk) (f : Nat) (us : List Nat) : Wl.dels S f (us.drop us.length) = (0, S) := by rw [List.drop_length]; rfl
theorem dels_stop {S : Disk} {f : Nat} {us : List Nat} {k N : Nat} (h : us[k]? = some N) (hn : f ≤ N) : Wl.dels S f (us.drop k) = (0, S) := by
  obtain ⟨hk, rfl⟩ := List.getElem?_eq_some_iff.1 h
  rw [List.drop_eq_getElem_cons hk, Wl.dels, if_pos hn]
theorem dels_go {S : Disk} {f : Nat} {us : List Nat} {k N : Nat} (h : us[k]? = some N) (hn : ¬ f ≤ N) : Wl.dels S f (us.drop k) = if (S.delete (Wl.nm N)).1 = 0 then Wl.dels (S.delete (Wl.nm N)).2 f (us.drop (k + 1)) else S.delete (Wl.nm N) := by
  obtain ⟨hk, rfl⟩ := List.getElem?_eq_some_iff.1 h
  rw [List.drop_eq_getElem_cons hk, Wl.dels, if_neg hn]

set_option maxHeartbeats 1000000 in
set_option maxRecDepth 100000 in
theorem retire_down {L : Lay} {S : Disk} {n m : Nat} (w : World) (h : Holds w L S) (G : Dk.Good n m S) (f : Nat) (hd : S.down = true) :
    Calls Tryz.prog 15 #[.pointer (some ⟨L.d, 0, none⟩), .int .u64 f] w fun e w' => e = .returned (.int .i64 7) ∧ w' = w := by
  have H := wbarred_any w h G
  have e : wbarV S = .int .i64 7 := by unfold wbarV; rw [if_pos hd]
  rw [e] at H
  replace H := Lib.hid H
  clear h e hd G
  go_enter Tryz.func15, Tryz.ntmps15
  go_wp2_with fail
  refine H.out.mono ?_
  rintro e w1 ⟨rfl, rfl⟩
  go_wp2_with fail
  go_ret
  exact ⟨rfl, rfl⟩

set_option maxHeartbeats 8000000 in
set_option maxRecDepth 100000 in
theorem retire_any {L : Lay} {S : Disk} {n m base : Nat} (w : World) (h : Holds w L S) (G : Dk.Good n m S) (hn : n ≤ 3000) (hm : m ≤ 100000000) (K : Knows base w) (hbase : base ≤ w.heap.size) (ho : ∀ b, Own L b → base ≤ b) (hr : Rise (Wl.nums S.now)) (hfew : (Wl.nums S.now).length ≤ 400) (f : Nat) (hd : S.down = false) :
    Calls Tryz.prog 15 #[.pointer (some ⟨L.d, 0, none⟩), .int .u64 f] w fun e w' => e = .returned (errV (Wl.retire S f).1) ∧ Goes L w (Wl.retire S f).2 w' := by
  have HBA := wbarred_any w h G
  rw [show wbarV S = .int .i64 0 by unfold wbarV; rw [if_neg (by simp [hd])]] at HBA
  replace HBA := Lib.hid HBA
  have HLO := Lib.hid (logs_any w h G (by omega) hm K hbase hr hfew)
  have HNM := Lib.hid (fun (W : World) (hb : Below base w W) (N : Nat) (hN : N < 18446744073709551616) => nameOf_any N W hN (K.next hb).pow)
  have HLT := Lib.hid (nums_lt (d := S.now))
  obtain ⟨R, hR⟩ : ∃ R, R = Wl.retire S f := ⟨_, rfl⟩
  rw [← hR]
  unfold Wl.retire at hR
  rw [if_neg (by simp [hd])] at hR
  have HQ2 := Lib.hid hfew
  have HBS := Lib.hid (And.intro hbase ho)
  have HOL := Lib.hid (fun b hb => h.own_lt (b := b) hb)
  have HG := Lib.hid (And.intro G (And.intro hn hm))
  generalize hU : Wl.nums S.now = us at *
  obtain ⟨q, hq⟩ : ∃ q, q = us.length := ⟨_, rfl⟩
  rw [← hq] at HLO
  have HQ := Lib.hid hq
  have HR : Hid (R = Wl.dels S f (us.drop 0)) := Lib.hid (by rw [hR]; rfl)
  have hq2 : (q : Int) ≤ 400 := by omega
  have HH := Lib.hid h
  clear hU hR h G K hbase ho hr hfew hd hq hn hm
  go_enter Tryz.func15, Tryz.ntmps15
  go_wp2_with fail
  refine HBA.out.mono ?_
  rintro e w1 ⟨rfl, rfl⟩
  go_wp2_with fail
  refine HLO.out.mono ?_
  rintro e w2 ⟨v, rfl, hrow, hb⟩
  obtain ⟨ao, cap, rfl⟩ := row_shape hrow
  have HB1 := Lib.hid hb
  have HRW := Lib.hid hrow
  have HG0 : Hid (Goes L w2 S w2) := Lib.hid (Goes.stay (HH.out.below hb))
  clear hrow hb HBA HLO
  go_wp2_with fail
  go_loopw [17] (fun z wr => ∃ (k : Nat) (T : Disk), k ≤ q ∧ z = .int .i64 (k : Int) ∧ Hid (R = Wl.dels T f (us.drop k) ∧ Dk.Good (n + k) m T ∧ Goes L w2 T wr)) (fun z _ => q - (intOf z).toNat)
  case atStart => exact ⟨0, S, by omega, rfl, Lib.hid ⟨HR.out, HG.out.1, HG0.out⟩⟩
  case round =>
    obtain ⟨k, T, hk, rfl, HK⟩ := hrel
    have HTU : Hid (Turns (Own L) w2 wr) := Lib.hid (by obtain ⟨L', _, _, ht, _⟩ := HK.out.2.2; exact ht)
    have HRK : Hid (wr.ownsRow w1.heap.size 28 1 (.slice ao q cap) q (numCells us)) := Lib.hid (ownsRow_frame HRW.out fun b hb => HTU.out.block b (ownsRow_lt HRW.out hb) fun hob => by
      have h1 := (HRW.out.lt b hb).1
      have h2 := HOL.out b hob
      omega)
    clear HR HG0
    by_cases hlt : k < q
    · have hlt2 : (k : Int) < q := by omega
      obtain ⟨N, hN⟩ : ∃ N, us[k]? = some N := ⟨_, List.getElem?_eq_getElem (by have := HQ.out; omega)⟩
      obtain ⟨g, hg, c0⟩ := row_at HRK.out (k := k) (v := .int .u64 (N : Nat)) (by unfold numCells; rw [List.getElem?_map, hN]; rfl) hlt
      subst hg
      have hNl := HLT.out N (List.mem_of_getElem? hN)
      by_cases hf : f ≤ N
      · have hf2 : (f : Int) ≤ N := by omega
        have HE : Hid (R = (0, T)) := Lib.hid (by rw [HK.out.1, dels_stop hN hf])
        clear hN hf
        go_wp2_with fail
        go_ret
        obtain rfl := HE.out
        exact ⟨rfl, HK.out.2.2.after HB1.out⟩
      · have hf2 : ¬ (f : Int) ≤ N := by omega
        have HE : Hid (R = if (T.delete (Wl.nm N)).1 = 0 then Wl.dels (T.delete (Wl.nm N)).2 f (us.drop (k + 1)) else T.delete (Wl.nm N)) := Lib.hid (by rw [HK.out.1, dels_go hN hf])
        have hB : Below w1.heap.size w1 w2 := HB1.out
        have HBR : Hid (Below (min base w1.heap.size) w1 wr) := Lib.hid ((hB.mono (by omega)).trans (HTU.out.to_below (by have := hB.size; omega) (fun b hb => by have := HBS.out.2 b hb; omega)))
        have HBR2 : Hid (Below base w1 wr) := Lib.hid (by have e : min base w1.heap.size = base := by have := HBS.out.1; omega
                                                          rw [← e]; exact HBR.out)
        have HN2 := Lib.hid (HNM.out wr HBR2.out N hNl)
        have hs := nm_size hNl
        have G1 := HK.out.2.1.delete (Wl.nm N)
        obtain ⟨L3, hd3, hh3, ht3, ho3⟩ := HK.out.2.2
        have HD := Lib.hid (fun (W : World) (hb : Below wr.heap.size wr W) => (show Calls _ _ _ W (fun e w' => e = .returned (errV (T.delete (Wl.nm N)).1) ∧ Goes L3 W (T.delete (Wl.nm N)).2 w') from delete_any W (hh3.below hb) (fits_wide HK.out.2.1 (by have := HG.out.2.1; omega) HG.out.2.2) (names_of HK.out.2.1) ⟨(Wl.nm N).toArray⟩ (by omega)))
        rw [hd3] at HD
        have HW3 := Lib.hid (And.intro hd3 (And.intro ht3 ho3))
        clear hd3 hh3 ht3 ho3 hN hf hNl hs hB
        generalize (⟨(Wl.nm N).toArray⟩ : ByteArray) = str at *
        generalize T.delete (Wl.nm N) = X at *
        obtain ⟨E, T2⟩ := X
        dsimp only at HE HD G1
        have HG1 := Lib.hid G1; clear G1
        by_cases h0 : E = 0
        · subst h0
          rw [if_pos rfl] at HE
          go_wp2_with fail
          refine HN2.out.mono ?_
          rintro e w3 ⟨rfl, hb3⟩
          have HB3 := Lib.hid hb3; clear hb3 c0
          go_wp2_with fail
          refine (HD.out _ HB3.out).mono ?_
          rintro e w4 ⟨rfl, hg4⟩
          have HG4 := Lib.hid hg4; clear hg4
          unfold errV
          go_wp2_with fail
          go_roundw
          case rel => exact ⟨k + 1, T2, by omega, by go_num, Lib.hid ⟨HE.out, HG1.out, Goes.trans HW3.out.1 HW3.out.2.1 HW3.out.2.2 (HG4.out.after HB3.out)⟩⟩
          case measure => simp [intOf]; omega
        · rw [if_neg h0] at HE
          go_wp2_with fail
          refine HN2.out.mono ?_
          rintro e w3 ⟨rfl, hb3⟩
          have HB3 := Lib.hid hb3; clear hb3 c0
          go_wp2_with fail
          refine (HD.out _ HB3.out).mono ?_
          rintro e w4 ⟨rfl, hg4⟩
          have HG4 := Lib.hid hg4; clear hg4
          unfold errV
          go_wp2_with fail
          go_ret
          obtain rfl := HE.out
          exact ⟨rfl, (Goes.trans HW3.out.1 HW3.out.2.1 HW3.out.2.2 (HG4.out.after HB3.out)).after HB1.out⟩
    · obtain rfl : k = q := by omega
      have hlt2 : ¬ ((k : Nat) : Int) < (k : Nat) := by omega
      have HE : Hid (R = (0, T)) := Lib.hid (by rw [HK.out.1, HQ.out, dels_end])
      go_wp2_with fail
      go_ret
      obtain rfl := HE.out
      exact ⟨rfl, HK.out.2.2.after HB1.out⟩

end Go.Proofs.YtfeconankopjmaaGreatDoor

/- The walks of wal over a nil disk, a nil log. -/
namespace Go.Proofs.YtfeconankopjmaaGreatDoor
set_option linter.unusedVariables false
open Go.RowKit Go.Maps
open Dk (Dir Chg Disk File Str)

theorem nobody_nil (w : World) : Nobody w none := Or.inl rfl
set_option maxHeartbeats 1000000 in
set_option maxRecDepth 100000 in
theorem wbarred_no (w : World) : Calls Tryz.prog 48 #[.pointer none] w fun e w' => e = .returned (.int .i64 2) ∧ w' = w := by
  have H := Lib.hid (read_no w none (nobody_nil w) ⟨#[]⟩)
  go_enter Tryz.func48, Tryz.ntmps48
  go_wp2_with fail
  refine H.out.mono ?_
  rintro e w1 ⟨rfl, rfl⟩
  go_wp2_with fail
  go_ret
  exact ⟨rfl, rfl⟩
set_option maxHeartbeats 1000000 in
set_option maxRecDepth 100000 in
theorem begin_no (w : World) (N : Nat) (hN : N < 18446744073709551616) {base : Nat} (K : Knows base w) : Calls Tryz.prog 9 #[.pointer none, .int .u64 N] w (Gives (.tuple #[.pointer none, .int .i64 2]) w) := by
  have HNM := Lib.hid (nameOf_any N w hN K.pow)
  have hs := nm_size hN
  clear K hN
  obtain ⟨str, hstr⟩ : ∃ str, str = (⟨(Wl.nm N).toArray⟩ : ByteArray) := ⟨_, rfl⟩
  rw [← hstr] at HNM
  clear hstr hs
  go_enter Tryz.func9, Tryz.ntmps9
  go_wp2_with fail
  refine HNM.out.mono ?_
  rintro e w1 ⟨rfl, hb1⟩
  have HB1 := Lib.hid hb1; clear hb1
  go_wp2_with fail
  refine (create_no w1 none (nobody_nil w1) str).mono ?_
  rintro e w2 ⟨rfl, rfl⟩
  go_wp2_with fail
  go_ret2
  exact ⟨rfl, HB1.out⟩
set_option maxHeartbeats 1000000 in
set_option maxRecDepth 100000 in
theorem logs_no (w : World) : Calls Tryz.prog 12 #[.pointer none] w (Gives (.slice none 0 0) w) := by
  go_enter Tryz.func12, Tryz.ntmps12
  go_wp2_with fail
  refine (list_no w none (nobody_nil w)).mono ?_
  rintro e w1 ⟨rfl, rfl⟩
  go_wp2_with fail
  go_loopw [3, 11] (fun u i wr => u = .slice none 0 0 ∧ i = .int .i64 0 ∧ wr = w1) (fun _ _ _ => 0)
  case atStart => exact ⟨rfl, rfl, rfl⟩
  case round =>
    obtain ⟨rfl, rfl, hw⟩ := hrel
    subst hw
    go_wp2_with fail
    refine (sort_nil _).mono ?_
    rintro e w2 ⟨rfl, hb2⟩
    go_wp2_with fail
    go_ret
    exact ⟨rfl, hb2⟩
set_option maxHeartbeats 1000000 in
set_option maxRecDepth 100000 in
theorem replay_no (w : World) (N : Nat) : Calls Tryz.prog 13 #[.pointer none, .int .u64 N] w fun e w' => e = .returned (.tuple #[.slice none 0 0, .int .i64 2]) ∧ w' = w := by
  go_enter Tryz.func13, Tryz.ntmps13
  go_wp2_with fail
  refine (wbarred_no w).mono ?_
  rintro e w1 ⟨rfl, rfl⟩
  go_wp2_with fail
  go_ret2
  exact ⟨rfl, rfl⟩
set_option maxHeartbeats 1000000 in
set_option maxRecDepth 100000 in
theorem retire_no (w : World) (N : Nat) : Calls Tryz.prog 15 #[.pointer none, .int .u64 N] w fun e w' => e = .returned (.int .i64 2) ∧ w' = w := by
  go_enter Tryz.func15, Tryz.ntmps15
  go_wp2_with fail
  refine (wbarred_no w).mono ?_
  rintro e w1 ⟨rfl, rfl⟩
  go_wp2_with fail
  go_ret
  exact ⟨rfl, rfl⟩
set_option maxHeartbeats 1000000 in
set_option maxRecDepth 100000 in
theorem add_nil (w : World) (seq : Nat) (ao : Option Addr) (len cap : Nat) : Calls Tryz.prog 10 #[.pointer none, Bn.batV seq ao len cap] w fun e w' => e = .returned (.int .i64 2) ∧ Below w.heap.size w w' := by
  unfold Bn.batV
  go_enter Tryz.func10, Tryz.ntmps10
  go_wp2_with fail
  go_ret
  exact ⟨rfl, (Below.refl _ _).alloc (Nat.le_refl _) _⟩

end Go.Proofs.YtfeconankopjmaaGreatDoor
