/- The law's own row: what a level tells, against the document's. -/
import Derived.Test.YtghfgffgcknbmaaSkY
namespace Go.Proofs.Ytghfgffgcknbmaa.Sk
open Go Go.RowKit
set_option linter.unusedVariables false

set_option maxHeartbeats 2000000 in
set_option maxRecDepth 100000 in
theorem refRowNeg {w : World} (ao : Option Addr) (m cap : Nat) (lev : Int) (hl : lev < 0) :
    Calls Try.prog 40 #[.slice ao m cap, .int .i64 lev] w fun e w' => e = .returned (.slice none 0 0) ∧ w' = w := by
  go_enter Try.func40, Try.ntmps40
  go_wp2_with fail
  go_ret
  exact ⟨rfl, rfl⟩
/-- The document's row of any level. -/
theorem refRow_any {base : Nat} {w : World} {ao : Option Addr} {m cap : Nat} {s r : List (It ByteArray)} (h : Items base w (.slice ao m cap) r) (hk : Kin s r) (hr : ∀ y ∈ r, y.key.length ≤ 1000000) (hm : r.length ≤ 100000) (hh : ∀ y ∈ s, 1 ≤ y.h ∧ y.h ≤ 12) (lev : Int) :
    Calls Try.prog 40 #[.slice ao m cap, .int .i64 lev] w fun e w' => ∃ v, e = .returned v ∧ Items w.heap.size w' v (rowL lev s) ∧ Below w.heap.size w w' := by
  unfold rowL
  by_cases hl : lev < 0
  · rw [if_pos (Or.inl hl)]
    refine (refRowNeg ao m cap lev hl).mono ?_
    rintro e w' ⟨h1, rfl⟩
    exact ⟨_, h1, World.ownsRow_nil .., Below.refl _ _⟩
  · have e : lev = (lev.toNat : Int) := by omega
    have H := refRow_in h hk hr hm lev.toNat
    rw [← e] at H
    by_cases hl2 : 12 ≤ lev
    · rw [if_pos (Or.inr hl2)]
      rw [row_none (j := lev.toNat) fun z hz => by have := (hh z hz).2; omega] at H
      exact H
    · rw [if_neg (by omega)]
      exact H

set_option maxHeartbeats 4000000 in
set_option maxRecDepth 100000 in
theorem lawRow_any {base b0 : Nat} {w : World} {ao bo : Option Addr} {m cap n cap2 : Nat} {s r : List (It ByteArray)} (lev : Int) (hv : w.ownsRow base 9 1 (.slice bo n cap2) (rowL lev s).length (keyCells (rowL lev s))) (hbase : base ≤ w.heap.size) (h : Items b0 w (.slice ao m cap) r) (hk : Kin s r) (hr : ∀ y ∈ r, y.key.length ≤ 1000000) (hm : r.length ≤ 100000) (hh : ∀ y ∈ s, 1 ≤ y.h ∧ y.h ≤ 12) :
    Calls Try.prog 39 #[.slice bo n cap2, .slice ao m cap, .int .i64 lev] w fun e w' => e = .returned (.bool true) ∧ Below base w w' := by
  have HR := Lib.hid (refRow_any h hk hr hm hh lev)
  have hle : (rowL lev s).length ≤ 100000 := by
    have : s.length ≤ 100000 := by rw [hk.len]; exact hm
    unfold rowL
    split
    · simp
    · have h1 : (row lev.toNat s).length ≤ s.length := List.length_filter_le ..
      omega
  obtain rfl : n = (rowL lev s).length := (row_here hv).1
  generalize rowL lev s = R at *
  have HV := Lib.hid hv
  have hmi : (R.length : Int) ≤ 100000 := by omega
  clear h hk hr hm hh hv
  go_enter Try.func39, Try.ntmps39
  go_wp2_with fail
  refine HR.out.mono ?_
  rintro e w1 ⟨v1, rfl, h1, hb1⟩
  obtain ⟨a1, cap1, e1⟩ := row_any h1
  subst e1
  have HI := Lib.hid h1
  have HV1 := Lib.hid (ownsRow_below HV.out hb1)
  have hvlt : Hid (∀ b, (Value.slice bo R.length cap2).ownBlock = some b → b < w.heap.size) := Lib.hid fun b hb => ownsRow_lt HV.out hb
  have HB := Lib.hid (hb1.mono hbase)
  clear hb1 h1
  go_wp2_with fail
  go_loopw [8] (fun i wr => ∃ (k : Nat), k ≤ R.length ∧ i = .int .i64 (k : Int) ∧ Hid (∃ cs, wr.ownsRow base 9 1 (.slice bo R.length cap2) R.length cs ∧ ∀ j, k ≤ j → cs[j]? = (keyCells R)[j]?) ∧ Hid (Items w.heap.size wr (.slice a1 R.length cap1) R) ∧ Hid (Below base w wr)) (fun i _ => R.length - (intOf i).toNat)
  case atStart => exact ⟨0, Nat.zero_le _, rfl, Lib.hid ⟨_, HV1.out, fun _ _ => rfl⟩, HI, HB⟩
  case round =>
    obtain ⟨k, hk, rfl, HC, HJ, HBR⟩ := hrel
    by_cases hkr : k < R.length
    · obtain ⟨y, hy⟩ : ∃ y, R[k]? = some y := ⟨R[k], List.getElem?_eq_getElem _⟩
      have hki : (k : Int) < R.length := by omega
      obtain ⟨g, ha, hg, c0, _, _⟩ := HJ.out.get hy
      obtain ⟨cs, hcs, hcj⟩ := HC.out
      have hck : cs[k]? = some (.string (txt y.key)) := by rw [hcj k (Nat.le_refl _)]; unfold keyCells; rw [List.getElem?_map, hy]; rfl
      obtain ⟨g2, e2, hb2, hl2, d0⟩ := (row_here hcs).2 k _ hck
      have hgb : w.heap.size ≤ g := by
        obtain ⟨g', e', hb', _⟩ := (row_here HJ.out).2 (k * 3 + 0) (.string (txt y.key)) (by rw [flat_get itCells_length R k 0 y hy (by omega)]; rfl)
        rw [ha] at e'
        simp at e'
        rw [e']; exact hb'
      subst e2 ha
      have hg2 := hvlt.out g2 rfl
      have hf : wr.frozen? ⟨g2, k, none⟩ = false := by
        obtain ⟨c, e⟩ := ownsRow_obj hcs (b := g2) rfl
        exact unfrozen_of e _
      have hdr : ∀ (q : Nat), (wr.drewN q).heap = wr.heap := fun q => by first | rfl | simp
      have HN : Hid (∀ q u, ∃ cs, ((wr.drewN q).setCell ⟨g2, k, none⟩ u).ownsRow base 9 1 (.slice (some ⟨g2, 0, none⟩) R.length cap2) R.length cs ∧ ∀ j, k + 1 ≤ j → cs[j]? = (keyCells R)[j]?) := Lib.hid fun q u =>
        ⟨cs.set k u, ownsRow_set (ownsRow_frame hcs fun b _ => by rw [hdr q]) (g := g2) rfl k u, fun j hj => by rw [List.getElem?_set_ne (by omega)]; exact hcj j (by omega)⟩
      have HM : Hid (∀ q u, Items w.heap.size ((wr.drewN q).setCell ⟨g2, k, none⟩ u) (.slice (some ⟨g, 0, none⟩) R.length cap1) R) := Lib.hid fun q u =>
        ownsRow_frame HJ.out fun b hb => (setCell_kept (wr.drewN q) ⟨g2, k, none⟩ u (by simp [Value.ownBlock] at hb; show b ≠ g2; omega)).trans (by rw [hdr q])
      have HD := Lib.hid hdr
      clear hcs hcj hck hy hdr
      go_wp2_with fail
      go_quiet (fail)
      go_wp2_with fail
      go_roundw
      case rel => exact ⟨k + 1, by omega, by go_num, Lib.hid (HN.out _ _), Lib.hid (HM.out _ _), Lib.hid ((below_drewN HBR.out _).setCell hb2 _)⟩
      case measure => simp [intOf]; omega
    · obtain rfl : k = R.length := by omega
      go_wp2_with fail
      go_ret
      exact ⟨rfl, HBR.out⟩

end Go.Proofs.Ytghfgffgcknbmaa.Sk
