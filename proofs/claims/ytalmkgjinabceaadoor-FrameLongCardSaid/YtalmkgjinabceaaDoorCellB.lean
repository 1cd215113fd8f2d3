/- The walk of cell.Crc. -/
import Derived.Test.YtalmkgjinabceaaDoorCellA
import Derived.Below
namespace Go.Proofs.YtalmkgjinabceaaDoor
open Go.RowKit

/-- A slice of texts that lies in memory. -/
def SeesS (w : World) (v : Value) (ss : List ByteArray) : Prop :=
  (ss = [] ∧ ∃ a cap, v = .slice a 0 cap) ∨
  ∃ b off cap, v = .slice (some ⟨b, off, none⟩) ss.length cap ∧ b < w.heap.size ∧ ∀ i, i < ss.length → w.cell? ⟨b, off + i, none⟩ = some (.string (ss.getD i ByteArray.empty))
theorem SeesS.below {w w' : World} {v : Value} {ss : List ByteArray} (h : SeesS w v ss) (hb : Below w.heap.size w w') : SeesS w' v ss := by
  rcases h with h | ⟨b, off, cap, rfl, hlt, hc⟩
  · exact Or.inl h
  · exact Or.inr ⟨b, off, cap, rfl, Nat.lt_of_lt_of_le hlt hb.size, fun i hi => (hb.cell (p := ⟨b, off + i, none⟩) hlt).trans (hc i hi)⟩
theorem SeesS.get {w : World} {ao : Option Addr} {len cap : Nat} {ss : List ByteArray} (h : SeesS w (.slice ao len cap) ss) :
    ss.length = len ∧ ∃ b off, ∀ i, i < len → ao = some ⟨b, off, none⟩ ∧ b < w.heap.size ∧ w.cell? ⟨b, off + i, none⟩ = some (.string (ss.getD i ByteArray.empty)) := by
  rcases h with ⟨rfl, a, c, h⟩ | ⟨b, off, c, h, hb, hc⟩
  · simp only [Value.slice.injEq] at h
    obtain ⟨rfl, rfl, rfl⟩ := h
    exact ⟨rfl, 0, 0, fun i hi => by omega⟩
  · simp only [Value.slice.injEq] at h
    obtain ⟨rfl, rfl, rfl⟩ := h
    exact ⟨rfl, b, off, fun i hi => ⟨rfl, hb, hc i hi⟩⟩
theorem sees_builtS {w : World} {cs : Array Value} {t : TypeId} {ss : List ByteArray} (h : ∀ i, i < ss.length → cs[i]? = some (.string (ss.getD i ByteArray.empty))) (cap : Nat) :
    SeesS (w.alloc (.cells cs t)) (.slice (some ⟨w.heap.size, 0, none⟩) ss.length cap) ss := by
  refine Or.inr ⟨w.heap.size, 0, cap, rfl, by simp, fun i hi => ?_⟩
  rw [World.cell?_alloc_mark, Nat.zero_add]
  exact h i hi
theorem sees_one (w : World) (s : ByteArray) (t : TypeId) (cap : Nat) : SeesS (w.alloc (.cells #[.string s] t)) (.slice (some ⟨w.heap.size, 0, none⟩) 1 cap) [s] :=
  sees_builtS (ss := [s]) (fun i hi => by obtain rfl : i = 0 := by simpa using hi
                                          rfl) cap
theorem sees_two (w : World) (s u : ByteArray) (t : TypeId) (cap : Nat) : SeesS (w.alloc (.cells #[.string s, .string u] t)) (.slice (some ⟨w.heap.size, 0, none⟩) 2 cap) [s, u] :=
  sees_builtS (ss := [s, u]) (fun i hi => by
    match i, hi with
    | 0, _ => rfl
    | 1, _ => rfl) cap

theorem Tab.lt {w : World} (h : Tab w) : 0 < w.heap.size := World.block_lt_of_cell? _ _ (h 0 (by omega))
theorem Tab.below {w w' : World} (h : Tab w) (hb : Below w.heap.size w w') : Tab w' := fun i hi => (hb.cell (p := ⟨0, i, none⟩) h.lt).trans (h i hi)
theorem Tab.alloc {w : World} (h : Tab w) (o : Obj) : Tab (w.alloc o) := h.below ((Below.refl _ _).alloc (Nat.le_refl _) o)
theorem Tab.drewN {w : World} (h : Tab w) (n : Nat) : Tab (w.drewN n) := h
theorem Tab.drew {w : World} (h : Tab w) : Tab w.drew := h

/-- Texts, one behind the other. -/
def catl (ss : List ByteArray) : List UInt8 := ss.flatMap fun s => s.data.toList
theorem catl_snoc (ss : List ByteArray) (k : Nat) (h : k < ss.length) : catl (ss.take (k + 1)) = catl (ss.take k) ++ (ss.getD k ByteArray.empty).data.toList := by
  have e : ss.getD k ByteArray.empty = ss[k] := by simp [h]
  unfold catl
  rw [List.take_succ_eq_append_getElem h, List.flatMap_append, e, List.flatMap_singleton]
theorem catl_one (s : ByteArray) : catl [s] = s.data.toList := by simp [catl]
theorem catl_two (s t : ByteArray) : catl [s, t] = s.data.toList ++ t.data.toList := by simp [catl]

set_option maxHeartbeats 400000 in
theorem crc_any (ao : Option Addr) (len cap : Nat) (ss : List ByteArray) (w : World) (hV : SeesS w (.slice ao len cap) ss) (hT : Tab w) (hz : ∀ s ∈ ss, s.size ≤ 9223372036854775807) (hl : len ≤ 9223372036854775807) :
    Calls Tryd.prog 29 #[.slice ao len cap] w fun e w' => e = .returned (.int .u32 (Cr.crc (catl ss))) ∧ w = w' := by
  obtain ⟨hlen, b, off, hcell⟩ := hV.get
  clear hV
  have HC := Lib.hid hcell; clear hcell
  have HZ := Lib.hid hz; clear hz
  have HT := Lib.hid hT; clear hT
  have HLEN := Lib.hid hlen; clear hlen
  go_enter Tryd.func29, Tryd.ntmps29
  go_wp2
  go_loop [3, 8] (fun n i => ∃ k q : Nat, k ≤ len ∧ i = .int .i64 k ∧ q < 4294967296 ∧ n = .int .u32 q ∧ Hid (q = Cr.st 4294967295 (catl (ss.take k)))) (fun _ i => len - (intOf i).toNat)
  case atStart => exact ⟨0, 4294967295, Nat.zero_le _, rfl, by omega, rfl, rfl⟩
  case round =>
    obtain ⟨k, q, hk, rfl, hq, rfl, HQ⟩ := hrel
    by_cases hlt : k < len
    · obtain ⟨ha, hb, hc⟩ := HC.out k hlt
      have HS : Hid ((ss.getD k ByteArray.empty).size ≤ 9223372036854775807) := by
        have hk' : k < ss.length := by have := HLEN.out; omega
        have e : ss.getD k ByteArray.empty = ss[k] := by simp [hk']
        rw [e]; exact Lib.hid (HZ.out _ (List.getElem_mem hk'))
      have HU : Hid (Cr.st 4294967295 (catl (ss.take (k + 1))) = Cr.st q (ss.getD k ByteArray.empty).data.toList) := by
        have hk' : k < ss.length := by have := HLEN.out; omega
        rw [catl_snoc ss k hk', Cr.st_append, HQ.out]; exact Lib.hid rfl
      subst ha
      generalize ss.getD k ByteArray.empty = s at *
      go_wp2_with fail
      refine (sumOn_any _ _ _ HT.out hq HS.out).mono ?_
      rintro e w' ⟨rfl, rfl⟩
      have hq' : Cr.st q s.data.toList < 4294967296 := Cr.st_lt _ hq
      obtain ⟨q', HQ'⟩ : ∃ q', Hid (q' = Cr.st q s.data.toList) := ⟨_, Lib.hid rfl⟩
      rw [← HQ'.out] at hq' ⊢
      go_wp2_with fail
      go_round
      case rel => exact ⟨k + 1, q', by omega, by go_num, hq', rfl, by rw [HU.out]; exact HQ'⟩
      case measure => simp [intOf]; omega
    · have HE : Hid (bits .xor .u32 (q : Int) 4294967295 = (Cr.crc (catl ss) : Nat)) := by
        have e := HQ.out
        rw [List.take_of_length_le (by have := HLEN.out; omega)] at e
        rw [Cr.crc, ← e]
        exact Lib.hid (u32_xor_nat q 4294967295 hq (by omega))
      go_wp2_with fail
      go_ret
      rw [HE.out]
      exact ⟨rfl, rfl⟩

end Go.Proofs.YtalmkgjinabceaaDoor
