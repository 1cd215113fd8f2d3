/- Walks of batch's small functions: isLong, isNumbered, areSound, Check. -/
import Derived.Test.YtohfjibhfbcanaaBtMath
import Derived.Test.YtohfjibhfbcanaaBelow
namespace Go.Proofs.Ytohfjibhfbcanaa
open Go.RowKit

theorem bcell {W w1 : World} (hb : Below W.heap.size W w1) : (∀ b o, b < W.heap.size → w1.cell? ⟨b, o, none⟩ = W.cell? ⟨b, o, none⟩) ∧ (∀ b o, b < W.heap.size → w1.frozen? ⟨b, o, none⟩ = W.frozen? ⟨b, o, none⟩) :=
  ⟨fun b o h => hb.cell (p := ⟨b, o, none⟩) h, fun b o h => hb.frozen (p := ⟨b, o, none⟩) h⟩

/-- An operation that lies in memory. -/
def ObAt (w : World) (b off : Nat) (p : Ob) : Prop := w.cell? ⟨b, off, none⟩ = some (.string p.key) ∧ w.cell? ⟨b, off + 1, none⟩ = some (.string p.val) ∧ w.cell? ⟨b, off + 2, none⟩ = some (.bool p.gone)

/-- A slice of operations that lies in memory. -/
def SeesO (w : World) (v : Value) (ps : List Ob) : Prop :=
  (ps = [] ∧ ∃ a cap, v = .slice a 0 cap) ∨
  ∃ b off cap, v = .slice (some ⟨b, off, none⟩) ps.length cap ∧ b < w.heap.size ∧ ∀ i, i < ps.length → ObAt w b (off + i * 3) (ps.getD i obd)

theorem ObAt.below {w w' : World} {b off : Nat} {p : Ob} (h : ObAt w b off p) {B : Nat} (hb : Below B w w') (hB : b < B) : ObAt w' b off p := by
  obtain ⟨h0, h1, h2⟩ := h
  exact ⟨(hb.cell (p := ⟨b, off, none⟩) hB).trans h0, (hb.cell (p := ⟨b, off + 1, none⟩) hB).trans h1, (hb.cell (p := ⟨b, off + 2, none⟩) hB).trans h2⟩
theorem SeesO.below {w w' : World} {v : Value} {ps : List Ob} (h : SeesO w v ps) (hb : Below w.heap.size w w') : SeesO w' v ps := by
  rcases h with h | ⟨b, off, cap, rfl, hlt, hc⟩
  · exact Or.inl h
  · exact Or.inr ⟨b, off, cap, rfl, Nat.lt_of_lt_of_le hlt hb.size, fun i hi => (hc i hi).below hb hlt⟩
theorem SeesO.get {w : World} {ao : Option Addr} {len cap : Nat} {ps : List Ob} (h : SeesO w (.slice ao len cap) ps) :
    ps.length = len ∧ ∃ b off, ∀ i, i < len → ao = some ⟨b, off, none⟩ ∧ b < w.heap.size ∧ ObAt w b (off + i * 3) (ps.getD i obd) := by
  rcases h with ⟨rfl, a, c, h⟩ | ⟨b, off, c, h, hb, hc⟩
  · simp only [Value.slice.injEq] at h
    obtain ⟨rfl, rfl, rfl⟩ := h
    exact ⟨rfl, 0, 0, fun i hi => by omega⟩
  · simp only [Value.slice.injEq] at h
    obtain ⟨rfl, rfl, rfl⟩ := h
    exact ⟨rfl, b, off, fun i hi => ⟨rfl, hb, hc i hi⟩⟩

/-- A batch, as a value. -/
def batV (seq : Nat) (ao : Option Addr) (len cap : Nat) : Value := .agg #[.int .u64 seq, .slice ao len cap]

theorem getD_mem {ops : List Ob} {k : Nat} (h : k < ops.length) : ops.getD k obd ∈ ops := by
  have e : ops.getD k obd = ops[k] := by simp [h]
  rw [e]; exact List.getElem_mem h
theorem any_yes {ops : List Ob} {f : Ob → Bool} {k : Nat} (h : k < ops.length) (hk : f (ops.getD k obd) = true) : ops.any f = true := List.any_eq_true.2 ⟨_, getD_mem h, hk⟩
theorem any_no {ops : List Ob} {f : Ob → Bool} (h : ∀ k, k < ops.length → f (ops.getD k obd) = false) : ops.any f = false := by
  rw [List.any_eq_false]
  intro x hx
  obtain ⟨i, hi, rfl⟩ := List.getElem_of_mem hx
  have := h i hi
  have e : ops.getD i obd = ops[i] := by simp [hi]
  rw [e] at this
  simp [this]

set_option maxHeartbeats 1000000 in
theorem isLong_any (seq : Nat) (ao : Option Addr) (len cap : Nat) (ops : List Ob) (w : World) (hS : SeesO w (.slice ao len cap) ops) :
    Calls Try.prog 27 #[batV seq ao len cap] w (Gives (.bool (Bt.isLong ops)) w) := by
  obtain ⟨hlen, b, off, hc⟩ := hS.get
  clear hS
  by_cases h16 : 16 < len
  · have HE : Hid (Bt.isLong ops = true) := by unfold Bt.isLong; rw [hlen]; exact Lib.hid (by simp [h16])
    clear hc hlen
    unfold batV
    go_enter Try.func27, Try.ntmps27
    go_wp2_with fail
    go_ret
    rw [HE.out]
    exact ⟨rfl, (Below.refl _ _).alloc (Nat.le_refl _) _⟩
  · have HE : Hid (Bt.isLong ops = ops.any Bt.longOb) := by unfold Bt.isLong; rw [hlen]; exact Lib.hid (by simp [h16])
    have HC := Lib.hid hc; have HLEN := Lib.hid hlen
    clear hc hlen
    unfold batV
    go_enter Try.func27, Try.ntmps27
    go_wp2_with fail
    go_loopw [12] (fun i wr => ∃ k : Nat, k ≤ len ∧ i = .int .i64 k ∧ (∀ j, j < k → Bt.longOb (ops.getD j obd) = false) ∧ Below w.heap.size w wr) (fun i _ => len - (intOf i).toNat)
    case atStart => exact ⟨0, Nat.zero_le _, rfl, fun j hj => by omega, (Below.refl _ _).alloc (Nat.le_refl _) _⟩
    case round =>
      obtain ⟨k, hk, rfl, hno, hbel⟩ := hrel
      have HNO := Lib.hid hno; clear hno
      have hsz := hbel.size
      by_cases hlt : k < len
      · obtain ⟨rfl, hbl, hob⟩ := HC.out k hlt
        obtain ⟨c0, c1, c2⟩ := hob.below hbel hbl
        have hbr : b < wr.heap.size := by omega
        have HL : Hid (Bt.longOb (ops.getD k obd) = (decide (64 < (ops.getD k obd).key.size) || decide (512 < (ops.getD k obd).val.size))) := Lib.hid rfl
        clear hob
        generalize hx : ops.getD k obd = x at *
        have HX := Lib.hid hx; clear hx
        by_cases h1 : 64 < x.key.size
        · have HY : Hid (Bt.longOb x = true) := by rw [HL.out]; exact Lib.hid (by simp [h1])
          go_wp2_with fail
          go_ret
          rw [HE.out, any_yes (by rw [HLEN.out]; exact hlt) (by rw [HX.out]; exact HY.out)]
          exact ⟨rfl, hbel.alloc hsz _⟩
        · by_cases h2 : 512 < x.val.size
          · have HY : Hid (Bt.longOb x = true) := by rw [HL.out]; exact Lib.hid (by simp [h2])
            go_wp2_with fail
            go_ret
            rw [HE.out, any_yes (by rw [HLEN.out]; exact hlt) (by rw [HX.out]; exact HY.out)]
            exact ⟨rfl, hbel.alloc hsz _⟩
          · have HY : Hid (Bt.longOb x = false) := by rw [HL.out]; exact Lib.hid (by simp; omega)
            go_wp2_with fail
            go_roundw
            case rel =>
              refine ⟨k + 1, by omega, by go_num, fun j hj => ?_, hbel.alloc hsz _⟩
              by_cases e : j = k
              · rw [e, HX.out]; exact HY.out
              · exact HNO.out j (by omega)
            case measure => simp [intOf]; omega
      · go_wp2_with fail
        go_ret
        rw [HE.out, any_no (fun j hj => HNO.out j (by rw [HLEN.out] at hj; omega))]
        exact ⟨rfl, hbel⟩

set_option maxHeartbeats 1000000 in
theorem isNumbered_any (seq : Nat) (ao : Option Addr) (len cap : Nat) (w : World) (hs : seq < 18446744073709551616) (hl : len ≤ 16) :
    Calls Try.prog 28 #[batV seq ao len cap] w (Gives (.bool (Bt.numbered seq len)) w) := by
  have hb : Below w.heap.size w (w.alloc (.cells #[Value.int IntKind.u64 ↑seq, Value.slice ao len cap] 27)) := (Below.refl _ _).alloc (Nat.le_refl _) _
  have HB := Lib.hid hb; clear hb
  by_cases h0 : len = 0
  · have HE : Hid (Bt.numbered seq len = false) := by unfold Bt.numbered; exact Lib.hid (by simp [h0])
    unfold batV
    subst h0
    go_enter Try.func28, Try.ntmps28
    go_wp2_with fail
    go_ret
    rw [HE.out]
    exact ⟨rfl, HB.out⟩
  · by_cases h1 : 1 ≤ seq
    · have h1' : ¬ ((len : Int) = 0) := by omega
      have h3 : (0 : Int) ≤ (len : Int) - 1 := by omega
      by_cases h2 : seq + len ≤ 9223372036854775809
      · have HE : Hid (Bt.numbered seq len = true) := by unfold Bt.numbered; exact Lib.hid (by simp [h0, h1, h2])
        have h2' : (seq : Int) ≤ 9223372036854775808 - ((len : Int) - 1) := by omega
        unfold batV
        go_enter Try.func28, Try.ntmps28
        go_wp2_with fail
        go_ret
        rw [HE.out]
        exact ⟨rfl, HB.out⟩
      · have HE : Hid (Bt.numbered seq len = false) := by unfold Bt.numbered; exact Lib.hid (by simp [h0, h1, h2])
        have h2' : ¬ (seq : Int) ≤ 9223372036854775808 - ((len : Int) - 1) := by omega
        unfold batV
        go_enter Try.func28, Try.ntmps28
        go_wp2_with fail
        go_ret
        rw [HE.out]
        exact ⟨rfl, HB.out⟩
    · have HE : Hid (Bt.numbered seq len = false) := by unfold Bt.numbered; exact Lib.hid (by simp [h0, h1])
      unfold batV
      go_enter Try.func28, Try.ntmps28
      go_wp2_with fail
      go_ret
      rw [HE.out]
      exact ⟨rfl, HB.out⟩

theorem empty_yes {s : ByteArray} (h : s.size = 0) : s.toList.isEmpty = true := by rw [empty_of_size h, ByteArray.toList_eq]; rfl

set_option maxHeartbeats 1000000 in
theorem areSound_any (ao : Option Addr) (len cap : Nat) (ops : List Ob) (w : World) (hS : SeesO w (.slice ao len cap) ops) (hl : len ≤ 16) :
    Calls Try.prog 29 #[.slice ao len cap] w (Gives (.bool (Bt.sound ops)) w) := by
  obtain ⟨hlen, b, off, hc⟩ := hS.get
  clear hS
  have HE : Hid (Bt.sound ops = !ops.any Bt.badOb) := Lib.hid rfl
  have HC := Lib.hid hc; have HLEN := Lib.hid hlen
  clear hc hlen
  go_enter Try.func29, Try.ntmps29
  go_wp2_with fail
  go_loopw [7] (fun i wr => ∃ k : Nat, k ≤ len ∧ i = .int .i64 k ∧ (∀ j, j < k → Bt.badOb (ops.getD j obd) = false) ∧ Below w.heap.size w wr) (fun i _ => len - (intOf i).toNat)
  case atStart => exact ⟨0, Nat.zero_le _, rfl, fun j hj => by omega, Below.refl _ _⟩
  case round =>
    obtain ⟨k, hk, rfl, hno, hbel⟩ := hrel
    have HNO := Lib.hid hno; clear hno
    have hsz := hbel.size
    by_cases hlt : k < len
    · obtain ⟨rfl, hbl, hob⟩ := HC.out k hlt
      obtain ⟨c0, c1, c2⟩ := hob.below hbel hbl
      have hbr : b < wr.heap.size := by omega
      have HL : Hid (Bt.badOb (ops.getD k obd) = (decide ((ops.getD k obd).key.size = 0) || ((ops.getD k obd).gone && !decide ((ops.getD k obd).val.size = 0)))) := Lib.hid rfl
      clear hob
      generalize hx : ops.getD k obd = x at *
      have HX := Lib.hid hx; clear hx
      obtain ⟨key, val, gone⟩ := x
      simp only at c0 c1 c2 HL
      by_cases h1 : key.size = 0
      · have HY : Hid (Bt.badOb ⟨key, val, gone⟩ = true) := by rw [HL.out]; exact Lib.hid (by simp [h1])
        have he := empty_yes h1
        clear h1
        go_wp2_with fail
        go_ret
        rw [HE.out, any_yes (by rw [HLEN.out]; exact hlt) (by rw [HX.out]; exact HY.out)]
        exact ⟨rfl, hbel.alloc hsz _⟩
      · have he := isEmpty_of_size (s := key) (by omega)
        cases gone with
        | false =>
          have HY : Hid (Bt.badOb ⟨key, val, false⟩ = false) := by rw [HL.out]; exact Lib.hid (by simp [h1])
          clear h1
          go_wp2_with fail
          go_roundw
          case rel =>
            refine ⟨k + 1, by omega, by go_num, fun j hj => ?_, hbel.alloc hsz _⟩
            by_cases e : j = k
            · rw [e, HX.out]; exact HY.out
            · exact HNO.out j (by omega)
          case measure => simp [intOf]; omega
        | true =>
          by_cases h2 : val.size = 0
          · have HY : Hid (Bt.badOb ⟨key, val, true⟩ = false) := by rw [HL.out]; exact Lib.hid (by simp [h1, h2])
            have he2 := empty_yes h2
            clear h1 h2
            go_wp2_with fail
            go_roundw
            case rel =>
              refine ⟨k + 1, by omega, by go_num, fun j hj => ?_, hbel.alloc hsz _⟩
              by_cases e : j = k
              · rw [e, HX.out]; exact HY.out
              · exact HNO.out j (by omega)
            case measure => simp [intOf]; omega
          · have HY : Hid (Bt.badOb ⟨key, val, true⟩ = true) := by rw [HL.out]; exact Lib.hid (by simp [h1, h2])
            have he2 := isEmpty_of_size (s := val) (by omega)
            clear h1 h2
            go_wp2_with fail
            go_ret
            rw [HE.out, any_yes (by rw [HLEN.out]; exact hlt) (by rw [HX.out]; exact HY.out)]
            exact ⟨rfl, hbel.alloc hsz _⟩
    · go_wp2_with fail
      go_ret
      rw [HE.out, any_no (fun j hj => HNO.out j (by rw [HLEN.out] at hj; omega))]
      exact ⟨rfl, hbel⟩

set_option maxHeartbeats 1000000 in
theorem check_any (seq : Nat) (ao : Option Addr) (len cap : Nat) (ops : List Ob) (w : World) (hS : SeesO w (.slice ao len cap) ops) (hs : seq < 18446744073709551616) :
    Calls Try.prog 10 #[batV seq ao len cap] w (Gives (.int .i64 (Bt.chk seq ops)) w) := by
  have HS := Lib.hid hS; have hlen := hS.get.1; clear hS
  have HQ := Lib.hid hs; clear hs
  have HB : Hid (Below w.heap.size w (w.alloc (.cells #[Value.int IntKind.u64 ↑seq, Value.slice ao len cap] 27))) := Lib.hid ((Below.refl _ _).alloc (Nat.le_refl _) _)
  have HL : Hid (∀ W, SeesO W (.slice ao len cap) ops → Calls Try.prog 27 #[.agg #[.int .u64 seq, .slice ao len cap]] W (Gives (.bool (Bt.isLong ops)) W)) := Lib.hid (fun W h => isLong_any seq ao len cap ops W h)
  have HN : Hid (∀ W, len ≤ 16 → Calls Try.prog 28 #[.agg #[.int .u64 seq, .slice ao len cap]] W (Gives (.bool (Bt.numbered seq len)) W)) := Lib.hid (fun W h => isNumbered_any seq ao len cap W HQ.out h)
  have HC : Hid (Bt.chk seq ops = if Bt.isLong ops = true then 3 else if (Bt.numbered seq ops.length && Bt.sound ops) = true then 0 else 1) := Lib.hid rfl
  have H16 : Hid (Bt.isLong ops = false → len ≤ 16) := Lib.hid (fun h => by
    simp only [Bt.isLong, Bool.or_eq_false_iff, decide_eq_false_iff_not] at h
    omega)
  rw [hlen] at HC
  unfold batV
  clear hlen
  generalize hx : Bt.isLong ops = x at *
  clear hx
  generalize hy : Bt.numbered seq len = y at *
  clear hy
  cases x with
  | true =>
    have HZ : Hid (Bt.chk seq ops = 3) := by rw [HC.out]; exact Lib.hid rfl
    go_enter Try.func10, Try.ntmps10
    go_wp2_with fail
    refine (HL.out _ (HS.out.below HB.out)).mono ?_
    rintro e w1 ⟨rfl, hb1⟩
    have HB1 := Lib.hid (Below.next HB.out hb1)
    obtain ⟨hc, hf⟩ := bcell hb1
    clear hb1
    go_wp2_with fail
    go_ret
    rw [HZ.out]
    exact ⟨rfl, HB1.out⟩
  | false =>
    cases y with
    | false =>
      have HZ : Hid (Bt.chk seq ops = 1) := by rw [HC.out]; exact Lib.hid rfl
      go_enter Try.func10, Try.ntmps10
      go_wp2_with fail
      refine (HL.out _ (HS.out.below HB.out)).mono ?_
      rintro e w1 ⟨rfl, hb1⟩
      have HB1 := Lib.hid (Below.next HB.out hb1)
      obtain ⟨hc, hf⟩ := bcell hb1
      have hz : w.heap.size < w1.heap.size := by have := hb1.size; simp at this; omega
      clear hb1
      go_wp2_with fail
      refine (HN.out _ (H16.out trivial)).mono ?_
      rintro e w2 ⟨rfl, hb2⟩
      have HB2 := Lib.hid (Below.next HB1.out hb2)
      go_wp2_with fail
      go_ret
      rw [HZ.out]
      exact ⟨rfl, HB2.out⟩
    | true =>
      have HZ : Hid (Bt.chk seq ops = if Bt.sound ops = true then 0 else 1) := by rw [HC.out]; exact Lib.hid (by simp)
      have HSD : Hid (∀ W, SeesO W (.slice ao len cap) ops → Calls Try.prog 29 #[.slice ao len cap] W (Gives (.bool (Bt.sound ops)) W)) := Lib.hid (fun W h => areSound_any ao len cap ops W h (H16.out rfl))
      generalize Bt.sound ops = z at *
      go_enter Try.func10, Try.ntmps10
      go_wp2_with fail
      refine (HL.out _ (HS.out.below HB.out)).mono ?_
      rintro e w1 ⟨rfl, hb1⟩
      have HB1 := Lib.hid (Below.next HB.out hb1)
      obtain ⟨hc, hf⟩ := bcell hb1
      have hz : w.heap.size < w1.heap.size := by have := hb1.size; simp at this; omega
      clear hb1
      go_wp2_with fail
      refine (HN.out _ (H16.out trivial)).mono ?_
      rintro e w2 ⟨rfl, hb2⟩
      have HB2 := Lib.hid (Below.next HB1.out hb2)
      obtain ⟨hc2, hf2⟩ := bcell hb2
      have hz2 := hb2.size
      clear hb2
      go_wp2_with fail
      refine (HSD.out _ (HS.out.below HB2.out)).mono ?_
      rintro e w3 ⟨rfl, hb3⟩
      have HB3 := Lib.hid (Below.next HB2.out hb3)
      cases z with
      | true =>
        go_wp2_with fail
        go_ret
        rw [HZ.out]
        exact ⟨rfl, HB3.out⟩
      | false =>
        go_wp2_with fail
        go_ret
        rw [HZ.out]
        exact ⟨rfl, HB3.out⟩

end Go.Proofs.Ytohfjibhfbcanaa
