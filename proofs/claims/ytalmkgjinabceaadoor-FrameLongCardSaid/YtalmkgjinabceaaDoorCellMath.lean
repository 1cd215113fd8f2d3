/- Plain facts on cells: no program is named here. -/
import Derived.Test.YtalmkgjinabceaaDoorCrcMath
namespace Go.Proofs.YtalmkgjinabceaaDoor.Cr

/-- A cell. -/
structure Cl where
  first : Bool
  last : Bool
  num : Int
  data : ByteArray

theorem Cl.eq {a b : Cl} (h1 : a.first = b.first) (h2 : a.last = b.last) (h3 : a.num = b.num) (h4 : a.data = b.data) : a = b := by
  cases a; cases b; simp_all

/-- May a cell be? -/
def may (c : Cl) : Bool := decide (0 ≤ c.num ∧ c.num ≤ 65535 ∧ (c.first = true ↔ c.num = 0) ∧ c.data.size ≤ 24 ∧ (c.last = true ∨ c.data.size = 24) ∧ (c.data.size ≠ 0 ∨ c.first = true))
/-- A cell's first byte. -/
def mark (c : Cl) : Nat := 64 + (if c.first then 1 else 0) + (if c.last then 2 else 0)
/-- A cell's bytes but for its sum. -/
def head (c : Cl) : List UInt8 := [UInt8.ofNat (mark c), UInt8.ofNat c.data.size, UInt8.ofNat c.num.toNat, UInt8.ofNat (c.num.toNat / 256)] ++ (c.data.data.toList ++ List.replicate (24 - c.data.size) 0)
/-- A cell's bytes. -/
def mk (c : Cl) : List UInt8 := head c ++ le4 (crc (head c))

theorem size_list (s : ByteArray) : s.data.toList.length = s.size := by rw [Array.length_toList]; rfl
theorem head_length {c : Cl} (h : c.data.size ≤ 24) : (head c).length = 28 := by
  simp only [head, List.length_append, List.length_cons, List.length_nil, size_list, List.length_replicate]
  omega
theorem mk_length {c : Cl} (h : c.data.size ≤ 24) : (mk c).length = 32 := by
  rw [mk, List.length_append, head_length h]; rfl

theorem may_size {c : Cl} (h : may c = true) : c.data.size ≤ 24 := by
  unfold may at h; simp only [decide_eq_true_eq] at h; exact h.2.2.2.1
theorem may_num {c : Cl} (h : may c = true) : 0 ≤ c.num ∧ c.num ≤ 65535 := by
  unfold may at h; simp only [decide_eq_true_eq] at h; exact ⟨h.1, h.2.1⟩

/-- What 32 bytes say, be they a cell's or not. -/
def dec (l : List UInt8) : Cl :=
  { first := (l.getD 0 0).toNat % 2 = 1, last := (l.getD 0 0).toNat / 2 % 2 = 1, num := (l.getD 2 0).toNat + 256 * (l.getD 3 0).toNat, data := ⟨((l.drop 4).take (l.getD 1 0).toNat).toArray⟩ }
/-- The cell whose bytes these are. -/
def rd (l : List UInt8) : Option Cl :=
  if l.length = 32 ∧ (l.getD 1 0).toNat ≤ 24 ∧ may (dec l) = true ∧ mk (dec l) = l then some (dec l) else none

theorem mark_lt (c : Cl) : mark c < 68 := by unfold mark; split <;> split <;> omega
theorem mark_ge (c : Cl) : 64 ≤ mark c := by unfold mark; omega
theorem toNat_ofNat (n : Nat) : (UInt8.ofNat n).toNat = n % 256 := UInt8.toNat_ofNat' ..

theorem mk_at (c : Cl) : (mk c).getD 0 0 = UInt8.ofNat (mark c) ∧ (mk c).getD 1 0 = UInt8.ofNat c.data.size ∧ (mk c).getD 2 0 = UInt8.ofNat c.num.toNat ∧ (mk c).getD 3 0 = UInt8.ofNat (c.num.toNat / 256) ∧
    (mk c).drop 4 = (c.data.data.toList ++ List.replicate (24 - c.data.size) 0) ++ le4 (crc (head c)) := by
  refine ⟨rfl, rfl, rfl, rfl, rfl⟩

theorem dec_mk {c : Cl} (h : may c = true) : dec (mk c) = c := by
  obtain ⟨h0, h1, h2, h3, h4⟩ := mk_at c
  have hs := may_size h
  obtain ⟨n0, n1⟩ := may_num h
  have hm := mark_lt c
  have e0 : (UInt8.ofNat (mark c)).toNat = mark c := by rw [toNat_ofNat]; omega
  have e1 : (UInt8.ofNat c.data.size).toNat = c.data.size := by rw [toNat_ofNat]; omega
  unfold dec
  rw [h0, h1, h2, h3, h4, e0, e1, toNat_ofNat, toNat_ofNat]
  refine Cl.eq ?_ ?_ ?_ ?_
  · show decide (mark c % 2 = 1) = c.first
    unfold mark
    cases c.first <;> cases c.last <;> rfl
  · show decide (mark c / 2 % 2 = 1) = c.last
    unfold mark
    cases c.first <;> cases c.last <;> rfl
  · show ((c.num.toNat % 256 : Nat) : Int) + 256 * ((c.num.toNat / 256 % 256 : Nat) : Int) = c.num
    omega
  · show ByteArray.mk _ = c.data
    rw [List.append_assoc, List.take_left' (size_list _)]

theorem rd_mk {c : Cl} (h : may c = true) : rd (mk c) = some c := by
  have hs := may_size h
  have e1 : ((mk c).getD 1 0).toNat ≤ 24 := by rw [(mk_at c).2.1, toNat_ofNat]; omega
  unfold rd
  rw [if_pos ⟨mk_length hs, e1, by rw [dec_mk h]; exact h, by rw [dec_mk h]⟩, dec_mk h]
theorem rd_some {l : List UInt8} {c : Cl} (h : rd l = some c) : may c = true ∧ mk c = l ∧ l.length = 32 := by
  unfold rd at h
  split at h
  · rename_i hc
    obtain rfl := Option.some.inj h
    exact ⟨hc.2.2.1, hc.2.2.2, hc.1⟩
  · cases h
theorem rd_none {l : List UInt8} (h : l.length ≠ 32) : rd l = none := by
  unfold rd; rw [if_neg (fun hc => h hc.1)]

/-- A text of which four bytes, from a place on, are turned by a mask's. -/
def turn (l : List UInt8) (at_ mask : Nat) : Nat → List UInt8
  | 0 => l
  | k + 1 => (turn l at_ mask k).set (at_ + k) ((turn l at_ mask k).getD (at_ + k) 0 ^^^ UInt8.ofNat (mask / 256 ^ k))

theorem turn_parts (l : List UInt8) (at_ mask : Nat) (ha : at_ ≤ l.length) : ∀ k, ∃ m, turn l at_ mask k = l.take at_ ++ m ++ (l.drop at_).drop k ∧ m.length = ((l.drop at_).take k).length
  | 0 => ⟨[], by simp [turn], by simp⟩
  | k + 1 => by
    obtain ⟨m, e, hm⟩ := turn_parts l at_ mask ha k
    rw [turn, e]
    generalize hq : l.drop at_ = q at *
    have ht : (l.take at_).length = at_ := by rw [List.length_take]; omega
    rcases Nat.lt_or_ge k q.length with hk | hk
    · have hd := List.drop_eq_getElem_cons hk
      have hm' : m.length = k := by rw [hm, List.length_take]; omega
      refine ⟨m ++ [q[k] ^^^ UInt8.ofNat (mask / 256 ^ k)], ?_, ?_⟩
      · rw [hd]
        have e2 : (l.take at_ ++ m ++ q[k] :: q.drop (k + 1))[at_ + k]? = some q[k] := by
          rw [List.getElem?_append_right (by rw [List.length_append]; omega), List.length_append, ht, hm', Nat.sub_self]; rfl
        rw [List.getD_eq_getElem?_getD, e2, Option.getD_some]
        rw [List.set_append_right _ _ (by rw [List.length_append]; omega), List.length_append, ht, hm', Nat.sub_self, List.set_cons_zero, List.append_assoc, List.append_assoc, List.append_assoc]
        rfl
      · rw [List.length_append, hm', List.length_take, List.length_singleton]; omega
    · refine ⟨m, ?_, ?_⟩
      · rw [List.drop_of_length_le hk, List.drop_of_length_le (by omega), List.append_nil]
        apply List.set_eq_of_length_le
        rw [List.length_append, ht, hm, List.length_take]; omega
      · rw [hm, List.length_take, List.length_take]; omega

theorem turn_length (l : List UInt8) (at_ mask : Nat) : ∀ k, (turn l at_ mask k).length = l.length
  | 0 => rfl
  | k + 1 => by rw [turn, List.length_set, turn_length l at_ mask k]

theorem parts_of (l : List UInt8) (at_ k : Nat) : l = l.take at_ ++ (l.drop at_).take k ++ (l.drop at_).drop k := by
  rw [List.append_assoc, List.take_append_drop, List.take_append_drop]

theorem crc_turn (l : List UInt8) (at_ mask : Nat) (ha : at_ ≤ l.length) : crc l = crc (turn l at_ mask 4) ↔ l = turn l at_ mask 4 := by
  refine ⟨fun h => ?_, fun h => by rw [← h]⟩
  obtain ⟨m, e, hm⟩ := turn_parts l at_ mask ha 4
  have hp := parts_of l at_ 4
  rw [e] at h ⊢
  conv at h => lhs; rw [hp]
  have := crc_burst (by rw [List.length_take]; omega) hm.symm h
  conv => lhs; rw [hp]
  rw [this]

theorem rd_turn {c : Cl} (h : may c = true) (at_ mask : Nat) (ha : at_ ≤ 32) : (rd (turn (mk c) at_ mask 4)).isSome = true ↔ mk c = turn (mk c) at_ mask 4 := by
  have hl := mk_length (may_size h)
  refine ⟨fun hr => ?_, fun e => by rw [← e, rd_mk h]; rfl⟩
  obtain ⟨c', hc'⟩ := Option.isSome_iff_exists.1 hr
  obtain ⟨m, e, hm⟩ := turn_parts (mk c) at_ mask (by omega) 4
  obtain ⟨_, h2, _⟩ := rd_some hc'
  have hp := parts_of (mk c) at_ 4
  have := whole_burst (a := head c) (b := head c') (by rw [List.length_take]; omega) hm.symm hp (h2.trans e)
  rw [e, ← this]
  exact hp

end Go.Proofs.YtalmkgjinabceaaDoor.Cr
