/- Walks of okey.Compare, over slices.CompareFunc. -/
import Derived.Test.YtognddehcfjiaaaOkeyA
namespace Go.Proofs.Ytognddehcfjiaaa
open Go.RowKit

/-- No part. -/
def pd : Pt := ⟨false, ByteArray.empty, 0⟩

/-- A part that lies in memory. -/
def PtAt (w : World) (b off : Nat) (p : Pt) : Prop := w.cell? ⟨b, off, none⟩ = some (.bool p.t) ∧ w.cell? ⟨b, off + 1, none⟩ = some (.string p.s) ∧ w.cell? ⟨b, off + 2, none⟩ = some (.int .u64 p.n)

/-- A slice of parts that lies in memory. -/
def SeesP (w : World) (v : Value) (ps : List Pt) : Prop :=
  (ps = [] ∧ ∃ a cap, v = .slice a 0 cap) ∨
  ∃ b off cap, v = .slice (some ⟨b, off, none⟩) ps.length cap ∧ b < w.heap.size ∧ ∀ i, i < ps.length → PtAt w b (off + i * 3) (ps.getD i pd)

theorem PtAt.below {w w' : World} {b off : Nat} {p : Pt} (h : PtAt w b off p) {B : Nat} (hb : Below B w w') (hB : b < B) : PtAt w' b off p := by
  obtain ⟨h0, h1, h2⟩ := h
  exact ⟨(hb.cell (p := ⟨b, off, none⟩) hB).trans h0, (hb.cell (p := ⟨b, off + 1, none⟩) hB).trans h1, (hb.cell (p := ⟨b, off + 2, none⟩) hB).trans h2⟩
theorem SeesP.below {w w' : World} {v : Value} {ps : List Pt} (h : SeesP w v ps) (hb : Below w.heap.size w w') : SeesP w' v ps := by
  rcases h with h | ⟨b, off, cap, rfl, hlt, hc⟩
  · exact Or.inl h
  · exact Or.inr ⟨b, off, cap, rfl, Nat.lt_of_lt_of_le hlt hb.size, fun i hi => (hc i hi).below hb hlt⟩
theorem SeesP.get {w : World} {ao : Option Addr} {len cap : Nat} {ps : List Pt} (h : SeesP w (.slice ao len cap) ps) :
    ps.length = len ∧ ∃ b off, ∀ i, i < len → ao = some ⟨b, off, none⟩ ∧ b < w.heap.size ∧ PtAt w b (off + i * 3) (ps.getD i pd) := by
  rcases h with ⟨rfl, a, c, h⟩ | ⟨b, off, c, h, hb, hc⟩
  · simp only [Value.slice.injEq] at h
    obtain ⟨rfl, rfl, rfl⟩ := h
    exact ⟨rfl, 0, 0, fun i hi => by omega⟩
  · simp only [Value.slice.injEq] at h
    obtain ⟨rfl, rfl, rfl⟩ := h
    exact ⟨rfl, b, off, fun i hi => ⟨rfl, hb, hc i hi⟩⟩

/-- Which list is ahead. -/
def cmpL : List Pt → List Pt → Int
  | [], [] => 0
  | [], _ :: _ => -1
  | _ :: _, [] => 1
  | a :: xs, b :: ys => if cmpPt a b = 0 then cmpL xs ys else cmpPt a b

theorem drop_getD (ps : List Pt) (k : Nat) (h : k < ps.length) : ps.drop k = ps.getD k pd :: ps.drop (k + 1) := by
  rw [List.drop_eq_getElem_cons h]; simp [h]
theorem cmpL_step (xs ys : List Pt) (k : Nat) (ha : k < xs.length) (hb : k < ys.length) : cmpL (xs.drop k) (ys.drop k) = if cmpPt (xs.getD k pd) (ys.getD k pd) = 0 then cmpL (xs.drop (k + 1)) (ys.drop (k + 1)) else cmpPt (xs.getD k pd) (ys.getD k pd) := by
  rw [drop_getD xs k ha, drop_getD ys k hb, cmpL]
theorem cmpL_more (xs ys : List Pt) (k : Nat) (ha : k < xs.length) (hb : ys.length ≤ k) : cmpL (xs.drop k) (ys.drop k) = 1 := by
  rw [drop_getD xs k ha, List.drop_of_length_le hb]; rfl
theorem cmpL_less (xs ys : List Pt) (k : Nat) (ha : xs.length ≤ k) (hb : k < ys.length) : cmpL (xs.drop k) (ys.drop k) = -1 := by
  rw [drop_getD ys k hb, List.drop_of_length_le ha]; rfl
theorem cmpL_end (xs ys : List Pt) (k : Nat) (ha : xs.length ≤ k) (hb : ys.length ≤ k) : cmpL (xs.drop k) (ys.drop k) = 0 := by
  rw [List.drop_of_length_le hb, List.drop_of_length_le ha]; rfl

set_option maxHeartbeats 1000000 in
theorem compareFunc_any (ao bo : Option Addr) (la ca lb cb : Nat) (xs ys : List Pt) (w : World) (hA : SeesP w (.slice ao la ca) xs) (hB : SeesP w (.slice bo lb cb) ys) (hla : la ≤ 1000000) (_hlb : lb ≤ 1000000) :
    Calls Try.prog 27 #[.slice ao la ca, .slice bo lb cb, .func (.func 28) #[] #[]] w (Gives (.int .i64 (cmpL xs ys)) w) := by
  obtain ⟨hlenA, ba, offa, hcA⟩ := hA.get
  obtain ⟨hlenB, bb, offb, hcB⟩ := hB.get
  clear hA hB
  have HLA := Lib.hid hlenA; have HLB := Lib.hid hlenB; have HCA := Lib.hid hcA; have HCB := Lib.hid hcB
  clear hlenA hlenB hcA hcB
  have H0 : Hid (cmpL xs ys = cmpL (xs.drop 0) (ys.drop 0)) := rfl
  generalize hR : cmpL xs ys = R at *
  clear hR
  go_enter Try.func27, Try.ntmps27
  go_wp2_with fail
  go_loopw [13] (fun i wr => ∃ k : Nat, k ≤ la ∧ k ≤ lb ∧ i = .int .i64 k ∧ R = cmpL (xs.drop k) (ys.drop k) ∧ Below w.heap.size w wr) (fun i _ => la - (intOf i).toNat)
  case atStart => exact ⟨0, Nat.zero_le _, Nat.zero_le _, rfl, H0.out, Below.refl _ _⟩
  case round =>
    obtain ⟨k, hka, hkb, rfl, hR, hbel⟩ := hrel
    have HR := Lib.hid hR; clear hR
    have hsz := hbel.size
    by_cases hlt : k < la
    · obtain ⟨rfl, hba, hpa⟩ := HCA.out k hlt
      obtain ⟨c0, c1, c2⟩ := hpa.below hbel hba
      have hba' : ba < wr.heap.size := by omega
      by_cases hlt2 : k < lb
      · obtain ⟨rfl, hbb, hpb⟩ := HCB.out k hlt2
        obtain ⟨d0, d1, d2⟩ := hpb.below hbel hbb
        have hbb' : bb < wr.heap.size := by omega
        have HS : Hid (cmpL (xs.drop k) (ys.drop k) = if cmpPt (xs.getD k pd) (ys.getD k pd) = 0 then cmpL (xs.drop (k + 1)) (ys.drop (k + 1)) else cmpPt (xs.getD k pd) (ys.getD k pd)) := cmpL_step xs ys k (by rw [HLA.out]; exact hlt) (by rw [HLB.out]; exact hlt2)
        have HP := Lib.hid (fun W => comparePart_any (xs.getD k pd) (ys.getD k pd) W)
        clear hpa hpb
        generalize xs.getD k pd = x at *
        generalize ys.getD k pd = y at *
        have HB2 : Hid (∀ o o', Below w.heap.size w ((wr.alloc o).alloc o')) := fun o o' => (hbel.alloc (by omega) _).alloc (by simp; omega) _
        by_cases hz : cmpPt x y = 0
        · have HS2 : Hid (cmpL (xs.drop k) (ys.drop k) = cmpL (xs.drop (k + 1)) (ys.drop (k + 1))) := by rw [HS.out, if_pos hz]; exact rfl
          have HZ := Lib.hid hz; clear hz HS
          go_wp2_with fail
          refine (HP.out _).mono ?_
          rintro e w1 ⟨rfl, hb1⟩
          rw [HZ.out]
          go_wp2_with fail
          go_roundw
          case rel => exact ⟨k + 1, by omega, by omega, by go_num, HR.out.trans HS2.out, (HB2.out _ _).trans (hb1.mono (by simp; omega))⟩
          case measure => simp [intOf]; omega
        · have HS2 : Hid (cmpL (xs.drop k) (ys.drop k) = cmpPt x y) := by rw [HS.out, if_neg hz]; exact rfl
          clear HS
          generalize cmpPt x y = c at *
          go_wp2_with fail
          refine (HP.out _).mono ?_
          rintro e w1 ⟨rfl, hb1⟩
          go_wp2_with fail
          go_ret
          rw [HR.out, HS2.out]
          exact ⟨rfl, (HB2.out _ _).trans (hb1.mono (by simp; omega))⟩
      · have HE : Hid (cmpL (xs.drop k) (ys.drop k) = 1) := cmpL_more xs ys k (by rw [HLA.out]; exact hlt) (by rw [HLB.out]; omega)
        clear hpa
        generalize xs.getD k pd = x at *
        go_wp2_with fail
        go_ret
        rw [HR.out, HE.out]
        exact ⟨rfl, hbel.alloc (by omega) _⟩
    · by_cases hlt2 : la < lb
      · have HE : Hid (cmpL (xs.drop k) (ys.drop k) = -1) := cmpL_less xs ys k (by rw [HLA.out]; omega) (by rw [HLB.out]; omega)
        go_wp2_with fail
        go_ret
        rw [HR.out, HE.out]
        exact ⟨rfl, hbel⟩
      · have HE : Hid (cmpL (xs.drop k) (ys.drop k) = 0) := cmpL_end xs ys k (by rw [HLA.out]; omega) (by rw [HLB.out]; omega)
        go_wp2_with fail
        go_ret
        rw [HR.out, HE.out]
        exact ⟨rfl, hbel⟩

set_option maxHeartbeats 400000 in
theorem compare_any (ao bo : Option Addr) (la ca lb cb : Nat) (xs ys : List Pt) (w : World) (hA : SeesP w (.slice ao la ca) xs) (hB : SeesP w (.slice bo lb cb) ys) (hla : la ≤ 1000000) (hlb : lb ≤ 1000000) :
    Calls Try.prog 14 #[.slice ao la ca, .slice bo lb cb] w (Gives (.int .i64 (cmpL xs ys)) w) := by
  have HC := Lib.hid (compareFunc_any ao bo la ca lb cb xs ys w hA hB hla hlb)
  clear hA hB hla hlb
  generalize cmpL xs ys = c at *
  go_enter Try.func14, Try.ntmps14
  go_wp2_with fail
  refine HC.out.mono ?_
  rintro e w1 ⟨rfl, hb1⟩
  go_wp2_with fail
  go_ret
  exact ⟨rfl, hb1⟩

end Go.Proofs.Ytognddehcfjiaaa
