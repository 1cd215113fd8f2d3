/- Texts on the program's own functions, several in one: Base, BlA, SeesT, CellA, CellBT. -/
import Derived.Test.YtphoihkbdogkhaaDoorRows
import Derived.WalkKit
import Derived.WalkSpells
import Derived.WalkLawsBesides
import Derived.Lib.Hide
import Derived.Lib.BitFns
import Derived.Lib.ItoaNum
import Derived.Lib.Walk
import Derived.Outline
import Derived.Below
import Derived.Test.YtphoihkbdogkhaaDoorPk1

/- What every walk here stands on: small facts, no function is named. -/
namespace Go.Proofs.YtphoihkbdogkhaaDoor
open Go.RowKit

theorem take_snoc (s : ByteArray) (k : Nat) (h : k < s.size) : s.data.toList.take (k + 1) = s.data.toList.take k ++ [s[k]] := by
  rw [List.take_succ_eq_append_getElem (by simpa using h)]; rfl

theorem index_byte (s : ByteArray) (i : Nat) (h : i < s.size) : ∀ w : World, (Instr.index 9 (.string s) (.int .i64 i)).run Tryd.prog w = .ok (.int .u8 (s[i]'h).toNat) w := by
  intro w
  rw [run_index_string _ _ _ _ _ Tryd.underlying9]
  simp [h]

theorem bcell {W w1 : World} (hb : Below W.heap.size W w1) : (∀ b o, b < W.heap.size → w1.cell? ⟨b, o, none⟩ = W.cell? ⟨b, o, none⟩) ∧ (∀ b o, b < W.heap.size → w1.frozen? ⟨b, o, none⟩ = W.frozen? ⟨b, o, none⟩) :=
  ⟨fun b o h => hb.cell (p := ⟨b, o, none⟩) h, fun b o h => hb.frozen (p := ⟨b, o, none⟩) h⟩
theorem Below.next {w w1 w2 : World} (h1 : Below w.heap.size w w1) (h2 : Below w1.heap.size w1 w2) : Below w.heap.size w w2 := h1.trans (h2.mono h1.size)
theorem Below.next_alloc {w w1 : World} (h1 : Below w.heap.size w w1) (o : Obj) : Below w.heap.size w (w1.alloc o) := h1.alloc h1.size o

/-- A value comes back; all that was there is as it was. -/
def Gives (v : Value) (w : World) (x : Ending) (w' : World) : Prop := x = .returned v ∧ Below w.heap.size w w'

theorem empty_of_size {s : ByteArray} (h : s.size = 0) : s = ByteArray.empty := by
  have h2 : s.data.size = 0 := h
  cases s with
  | mk d => exact congrArg ByteArray.mk (Array.eq_empty_of_size_eq_zero h2)

/-- Two texts with the same bytes. -/
theorem str_eq {a b : ByteArray} (h : a.toList = b.toList) : a = b := by
  rw [ByteArray.toList_eq, ByteArray.toList_eq] at h
  exact ByteArray.ext (Array.toList_inj.1 h)

end Go.Proofs.YtphoihkbdogkhaaDoor

/- Walks of bloom.Hash, sizeOf. -/
namespace Go.Proofs.YtphoihkbdogkhaaDoor
open Go.RowKit

theorem list_size (s : ByteArray) : s.data.toList.length = s.size := by rw [Array.length_toList]; rfl

/-- One round of a hash, as a walk meets it. -/
theorem stp_walk {q B : Nat} (hq : q < 18446744073709551616) (hB : B < 256) :
    IntKind.u64.wrap (bits .xor .u64 (q : Int) (B : Int) * 1099511628211) = (Bl.stp q B : Nat) := by
  rw [u64_xor_nat q B hq (by omega), IntKind.wrap_u64]
  unfold Bl.stp
  omega

set_option maxHeartbeats 400000 in
theorem hash_any (s : ByteArray) (w : World) (hs : s.size ≤ 9223372036854775807) :
    Calls Tryd.prog 90 #[.string s] w fun e w' => e = .returned (.int .u64 (Bl.hash s.data.toList)) ∧ w = w' := by
  go_enter Tryd.func90, Tryd.ntmps90
  go_wp2
  go_loop [3, 7] (fun n i => ∃ k q : Nat, k ≤ s.size ∧ i = .int .i64 k ∧ Hid (q < 18446744073709551616) ∧ n = .int .u64 q ∧ Hid (q = Bl.hash (s.data.toList.take k))) (fun _ i => s.size - (intOf i).toNat)
  case atStart => exact ⟨0, _, Nat.zero_le _, rfl, Bl.hash_lt [], rfl, rfl⟩
  case round =>
    obtain ⟨k, q, hk, rfl, hq, rfl, HQ⟩ := hrel
    by_cases hlt : k < s.size
    · obtain ⟨B, hB⟩ : ∃ B : Nat, B = s[k].toNat := ⟨_, rfl⟩
      have hx := index_byte s k hlt
      rw [← hB] at hx
      have HU : Hid (Bl.hash (s.data.toList.take (k + 1)) = Bl.stp (Bl.hash (s.data.toList.take k)) B) := by rw [take_snoc s k hlt]; unfold Bl.hash; rw [Bl.hs_snoc, hB]; exact Lib.hid rfl
      have hB2 : B < 256 := by rw [hB]; exact s[k].toNat_lt
      clear hB
      obtain ⟨q1, h1⟩ : ∃ q1, q1 = Bl.stp q B := ⟨_, rfl⟩
      have e1 := stp_walk hq.out hB2
      rw [← h1] at e1
      have HF : Hid (q1 = Bl.hash (s.data.toList.take (k + 1))) := by rw [HU.out, ← HQ.out, h1]; exact Lib.hid rfl
      have HL : Hid (q1 < 18446744073709551616) := by rw [h1]; exact Lib.hid (Bl.stp_lt _ _)
      clear h1
      go_wp2
      go_round
      case rel => exact ⟨k + 1, q1, by omega, by go_num, HL.out, rfl, HF.out⟩
      case measure => simp [intOf]; omega
    · have HE : Hid (q = Bl.hash s.data.toList) := by
        have := HQ.out
        rw [List.take_of_length_le (by rw [list_size]; omega)] at this
        exact Lib.hid this
      go_wp2
      go_ret
      rw [HE.out]
      exact ⟨rfl, rfl⟩

set_option maxHeartbeats 400000 in
theorem sizeOf_any (n : Nat) (w : World) (hn : n ≤ 1000000) :
    Calls Tryd.prog 80 #[.int .i64 n] w fun e w' => e = .returned (.int .i64 (Bl.size n)) ∧ w = w' := by
  go_enter Tryd.func80, Tryd.ntmps80
  have HE : Hid ((max 64 (10 * (n : Int)) + 8 - 1) / 8 = ((Bl.size n : Nat) : Int)) := Lib.hid (by unfold Bl.size; omega)
  go_wp2
  go_ret
  rw [HE.out]
  exact ⟨rfl, rfl⟩

end Go.Proofs.YtphoihkbdogkhaaDoor

/- Slices of texts that lie in memory; no function is named (as CellB's first part, without a table). -/
namespace Go.Proofs.YtphoihkbdogkhaaDoor
open Go.RowKit

theorem size_list (s : ByteArray) : s.data.toList.length = s.size := by rw [Array.length_toList]; rfl
theorem getD_at {ss : List ByteArray} {k : Nat} (h : k < ss.length) : ss.getD k ByteArray.empty = ss[k] := by simp [h]
/-- A slice of texts that lies in memory. -/
def SeesS (w : World) (v : Value) (ss : List ByteArray) : Prop :=
  (ss = [] ∧ ∃ a cap, v = .slice a 0 cap) ∨
  ∃ b off cap, v = .slice (some ⟨b, off, none⟩) ss.length cap ∧ b < w.heap.size ∧ ∀ i, i < ss.length → w.cell? ⟨b, off + i, none⟩ = some (.string (ss.getD i ByteArray.empty))
theorem SeesS.below {w w' : World} {v : Value} {ss : List ByteArray} (h : SeesS w v ss) (hb : Below w.heap.size w w') : SeesS w' v ss := by
  rcases h with h | ⟨b, off, cap, rfl, hlt, hc⟩
  · exact Or.inl h
  · exact Or.inr ⟨b, off, cap, rfl, Nat.lt_of_lt_of_le hlt hb.size, fun i hi => (hb.cell (p := ⟨b, off + i, none⟩) hlt).trans (hc i hi)⟩
theorem SeesS.get {w : World} {ao : Option Addr} {len cap : Nat} {ss : List ByteArray} (h : SeesS w (.slice ao len cap) ss) :
    ss.length = len ∧ ∃ b off, ∀ i, i < len → ao = some ⟨b, off, none⟩ ∧ b < w.heap.size ∧ w.cell? ⟨b, off + i, none⟩ = some (.string (ss.getD i ByteArray.empty)) := by
  rcases h with ⟨rfl, a, c, h⟩ | ⟨b, off, c, h, hb, hc⟩
  · simp only [Value.slice.injEq] at h
    obtain ⟨rfl, rfl, rfl⟩ := h
    exact ⟨rfl, 0, 0, fun i hi => by omega⟩
  · simp only [Value.slice.injEq] at h
    obtain ⟨rfl, rfl, rfl⟩ := h
    exact ⟨rfl, b, off, fun i hi => ⟨rfl, hb, hc i hi⟩⟩
theorem sees_builtS {w : World} {cs : Array Value} {t : TypeId} {ss : List ByteArray} (h : ∀ i, i < ss.length → cs[i]? = some (.string (ss.getD i ByteArray.empty))) (cap : Nat) :
    SeesS (w.alloc (.cells cs t)) (.slice (some ⟨w.heap.size, 0, none⟩) ss.length cap) ss := by
  refine Or.inr ⟨w.heap.size, 0, cap, rfl, by simp, fun i hi => ?_⟩
  rw [World.cell?_alloc_mark, Nat.zero_add]
  exact h i hi
theorem sees_one (w : World) (s : ByteArray) (t : TypeId) (cap : Nat) : SeesS (w.alloc (.cells #[.string s] t)) (.slice (some ⟨w.heap.size, 0, none⟩) 1 cap) [s] :=
  sees_builtS (ss := [s]) (fun i hi => by obtain rfl : i = 0 := by simpa using hi
                                          rfl) cap
theorem sees_two (w : World) (s u : ByteArray) (t : TypeId) (cap : Nat) : SeesS (w.alloc (.cells #[.string s, .string u] t)) (.slice (some ⟨w.heap.size, 0, none⟩) 2 cap) [s, u] :=
  sees_builtS (ss := [s, u]) (fun i hi => by
    match i, hi with
    | 0, _ => rfl
    | 1, _ => rfl) cap

end Go.Proofs.YtphoihkbdogkhaaDoor

/- Walks of cell.sumOn, Crc: the sum of texts is the plain one. Condition: the table of half bytes lies in memory. -/
namespace Go.Proofs.YtphoihkbdogkhaaDoor
open Go.RowKit

theorem and15 (q : Nat) (h : q < 4294967296) : bits .and .u32 (q : Int) 15 = ((q % 16 : Nat) : Int) := by
  have := u32_and_nat q 15 h (by omega)
  rw [show (15 : Nat) = 2 ^ 4 - 1 by decide, Nat.and_two_pow_sub_one_eq_mod] at this
  exact this

/-- The table of half bytes lies in memory. -/
def Tab (w : World) : Prop := ∀ i, i < 16 → w.cell? ⟨0, i, none⟩ = some (.int .u32 (Cr.tab.getD i 0))

/-- Four bits go out: what the walk meets there. -/
theorem Tab.half {w : World} (hT : Tab w) (q : Nat) (hq : q < 4294967296) : ∃ i t q' : Nat, bits .and .u32 (q : Int) 15 = (i : Int) ∧ i < 16 ∧ w.cell? ⟨0, i, none⟩ = some (.int .u32 (t : Int)) ∧ bits .xor .u32 ((q : Int) / 16) (t : Int) = (q' : Int) ∧ q' < 4294967296 ∧ q' = Cr.steps 4 q := by
  have h16 : q % 16 < 16 := Nat.mod_lt _ (by omega)
  have ht := Cr.tab_lt (q % 16) h16
  refine ⟨q % 16, Cr.tab.getD (q % 16) 0, Cr.steps 4 q, and15 q hq, h16, hT _ h16, ?_, Cr.steps_lt 4 hq, rfl⟩
  rw [← Cr.nibble q]
  exact u32_xor_nat (q / 16) _ (by omega) ht

set_option maxHeartbeats 400000 in
theorem sumOn_any (r : Nat) (s : ByteArray) (w : World) (hT : Tab w) (hr : r < 4294967296) (hs : s.size ≤ 9223372036854775807) :
    Calls Tryd.prog 81 #[.int .u32 r, .string s] w fun e w' => e = .returned (.int .u32 (Cr.st r s.data.toList)) ∧ w = w' := by
  have HT := Lib.hid hT; clear hT
  have HR := Lib.hid hr; clear hr
  go_enter Tryd.func81, Tryd.ntmps81
  go_wp2
  go_loop [0, 8] (fun n i => ∃ k q : Nat, k ≤ s.size ∧ i = .int .i64 k ∧ q < 4294967296 ∧ n = .int .u32 q ∧ Hid (q = Cr.st r (s.data.toList.take k))) (fun _ i => s.size - (intOf i).toNat)
  case atStart => exact ⟨0, r, Nat.zero_le _, rfl, HR.out, rfl, rfl⟩
  case round =>
    obtain ⟨k, q, hk, rfl, hq, rfl, HQ⟩ := hrel
    by_cases hlt : k < s.size
    · obtain ⟨B, hB⟩ : ∃ B : Nat, B = s[k].toNat := ⟨_, rfl⟩
      have hx := index_byte s k hlt
      rw [← hB] at hx
      have HU : Hid (Cr.st r (s.data.toList.take (k + 1)) = Cr.upd (Cr.st r (s.data.toList.take k)) B) := by rw [take_snoc s k hlt, Cr.st_snoc, hB]; exact Lib.hid rfl
      have HB : Hid (B < 256) := by rw [hB]; exact s[k].toNat_lt
      clear hB
      obtain ⟨q1, h1⟩ : ∃ q1, q1 = q ^^^ B := ⟨_, rfl⟩
      have e1 : bits .xor .u32 (q : Int) ((B : Int) % 4294967296) = (q1 : Int) := by
        rw [h1, Int.emod_eq_of_lt (by omega) (by have := HB.out; omega)]; exact u32_xor_nat _ _ hq (by have := HB.out; omega)
      have hq1 : q1 < 4294967296 := by rw [h1]; exact Cr.xor_lt hq (by have := HB.out; omega)
      obtain ⟨i1, t1, q2, a1, b1, c1, d1, hq2, h2⟩ := HT.out.half q1 hq1
      obtain ⟨i2, t2, q3, a2, b2, c2, d2, hq3, h3⟩ := HT.out.half q2 hq2
      have HF : Hid (q3 = Cr.st r (s.data.toList.take (k + 1))) := by
        rw [HU.out, ← HQ.out, Cr.upd, h3, h2, h1, ← Cr.steps_add]; exact Lib.hid rfl
      clear h1 h2 h3
      go_wp2
      go_round
      case rel => exact ⟨k + 1, q3, by omega, by go_num, hq3, rfl, HF⟩
      case measure => simp [intOf]; omega
    · have HE : Hid (q = Cr.st r s.data.toList) := by
        have := HQ.out
        rw [List.take_of_length_le (by rw [Cr.size_list]; omega)] at this
        exact this
      go_wp2
      go_ret
      rw [HE.out]
      exact ⟨rfl, rfl⟩

end Go.Proofs.YtphoihkbdogkhaaDoor

/- The walk of cell.Crc. -/
namespace Go.Proofs.YtphoihkbdogkhaaDoor
open Go.RowKit

theorem Tab.lt {w : World} (h : Tab w) : 0 < w.heap.size := World.block_lt_of_cell? _ _ (h 0 (by omega))
theorem Tab.below {w w' : World} (h : Tab w) (hb : Below w.heap.size w w') : Tab w' := fun i hi => (hb.cell (p := ⟨0, i, none⟩) h.lt).trans (h i hi)
theorem Tab.alloc {w : World} (h : Tab w) (o : Obj) : Tab (w.alloc o) := h.below ((Below.refl _ _).alloc (Nat.le_refl _) o)
theorem Tab.drewN {w : World} (h : Tab w) (n : Nat) : Tab (w.drewN n) := h
theorem Tab.drew {w : World} (h : Tab w) : Tab w.drew := h

/-- Texts, one behind the other. -/
def catl (ss : List ByteArray) : List UInt8 := ss.flatMap fun s => s.data.toList
theorem catl_snoc (ss : List ByteArray) (k : Nat) (h : k < ss.length) : catl (ss.take (k + 1)) = catl (ss.take k) ++ (ss.getD k ByteArray.empty).data.toList := by
  have e : ss.getD k ByteArray.empty = ss[k] := by simp [h]
  unfold catl
  rw [List.take_succ_eq_append_getElem h, List.flatMap_append, e, List.flatMap_singleton]
theorem catl_one (s : ByteArray) : catl [s] = s.data.toList := by simp [catl]
theorem catl_two (s t : ByteArray) : catl [s, t] = s.data.toList ++ t.data.toList := by simp [catl]

set_option maxHeartbeats 400000 in
theorem crc_any (ao : Option Addr) (len cap : Nat) (ss : List ByteArray) (w : World) (hV : SeesS w (.slice ao len cap) ss) (hT : Tab w) (hz : ∀ s ∈ ss, s.size ≤ 9223372036854775807) (hl : len ≤ 9223372036854775807) :
    Calls Tryd.prog 53 #[.slice ao len cap] w fun e w' => e = .returned (.int .u32 (Cr.crc (catl ss))) ∧ w = w' := by
  obtain ⟨hlen, b, off, hcell⟩ := hV.get
  clear hV
  have HC := Lib.hid hcell; clear hcell
  have HZ := Lib.hid hz; clear hz
  have HT := Lib.hid hT; clear hT
  have HLEN := Lib.hid hlen; clear hlen
  go_enter Tryd.func53, Tryd.ntmps53
  go_wp2
  go_loop [3, 8] (fun n i => ∃ k q : Nat, k ≤ len ∧ i = .int .i64 k ∧ q < 4294967296 ∧ n = .int .u32 q ∧ Hid (q = Cr.st 4294967295 (catl (ss.take k)))) (fun _ i => len - (intOf i).toNat)
  case atStart => exact ⟨0, 4294967295, Nat.zero_le _, rfl, by omega, rfl, rfl⟩
  case round =>
    obtain ⟨k, q, hk, rfl, hq, rfl, HQ⟩ := hrel
    by_cases hlt : k < len
    · obtain ⟨ha, hb, hc⟩ := HC.out k hlt
      have HS : Hid ((ss.getD k ByteArray.empty).size ≤ 9223372036854775807) := by
        have hk' : k < ss.length := by have := HLEN.out; omega
        have e : ss.getD k ByteArray.empty = ss[k] := by simp [hk']
        rw [e]; exact Lib.hid (HZ.out _ (List.getElem_mem hk'))
      have HU : Hid (Cr.st 4294967295 (catl (ss.take (k + 1))) = Cr.st q (ss.getD k ByteArray.empty).data.toList) := by
        have hk' : k < ss.length := by have := HLEN.out; omega
        rw [catl_snoc ss k hk', Cr.st_append, HQ.out]; exact Lib.hid rfl
      subst ha
      generalize ss.getD k ByteArray.empty = s at *
      go_wp2_with fail
      refine (sumOn_any _ _ _ HT.out hq HS.out).mono ?_
      rintro e w' ⟨rfl, rfl⟩
      have hq' : Cr.st q s.data.toList < 4294967296 := Cr.st_lt _ hq
      obtain ⟨q', HQ'⟩ : ∃ q', Hid (q' = Cr.st q s.data.toList) := ⟨_, Lib.hid rfl⟩
      rw [← HQ'.out] at hq' ⊢
      go_wp2_with fail
      go_round
      case rel => exact ⟨k + 1, q', by omega, by go_num, hq', rfl, by rw [HU.out]; exact HQ'⟩
      case measure => simp [intOf]; omega
    · have HE : Hid (bits .xor .u32 (q : Int) 4294967295 = (Cr.crc (catl ss) : Nat)) := by
        have e := HQ.out
        rw [List.take_of_length_le (by have := HLEN.out; omega)] at e
        rw [Cr.crc, ← e]
        exact Lib.hid (u32_xor_nat q 4294967295 hq (by omega))
      go_wp2_with fail
      go_ret
      rw [HE.out]
      exact ⟨rfl, rfl⟩

end Go.Proofs.YtphoihkbdogkhaaDoor
