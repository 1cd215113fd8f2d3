/- Walks of layer 2's statements' own helpers: begins, same. -/
import Derived.Test.YtognddehcfjiaaaOkeyJ
import Derived.Deep.QuietTactic
import Derived.BigQuiet
namespace Go.Proofs.Ytognddehcfjiaaa
open Go.RowKit
set_option linter.unusedVariables false

theorem below_drewN {B : Nat} {w w1 : World} (h : Below B w w1) (n : Nat) : Below B w (w1.drewN n) := ⟨h.os, h.tape, h.output, h.size, h.block⟩
theorem prefix_get {xs ys : List Pt} (hp : ys <+: xs) (k : Nat) (hk : k < ys.length) : xs.getD k pd = ys.getD k pd := by
  obtain ⟨t, rfl⟩ := hp
  simp [List.getElem?_append_left hk, hk]
theorem prefix_of {xs ys : List Pt} (hl : ys.length ≤ xs.length) (h : ∀ k, k < ys.length → xs.getD k pd = ys.getD k pd) : ys <+: xs := by
  refine ⟨xs.drop ys.length, ?_⟩
  have : xs.take ys.length = ys := by
    apply List.ext_getElem
    · rw [List.length_take]; omega
    · intro k h1 h2
      have := h k h2
      simp [show k < xs.length by omega, h2] at this
      rw [List.getElem_take]
      exact this
  conv => lhs; lhs; rw [← this]
  exact List.take_append_drop ..

set_option maxRecDepth 100000 in
set_option maxHeartbeats 2000000 in
theorem begins_yes (ao bo : Option Addr) (la ca lb cb : Nat) (xs ys : List Pt) (w : World) (hA : SeesP w (.slice ao la ca) xs) (hB : SeesP w (.slice bo lb cb) ys) (hla : la ≤ 1000000) (_hlb : lb ≤ 1000000) (hp : ys <+: xs) :
    Calls Try.prog 22 #[.slice ao la ca, .slice bo lb cb] w (Gives (.bool true) w) := by
  obtain ⟨hlenA, ba, offa, hcA⟩ := hA.get
  obtain ⟨hlenB, bb, offb, hcB⟩ := hB.get
  have hle : ¬ la < lb := by have := hp.length_le; omega
  have hget : ∀ k, k < lb → xs.getD k pd = ys.getD k pd := fun k hk => prefix_get hp k (by omega)
  clear hA hB hp
  have HLA := Lib.hid hlenA; have HLB := Lib.hid hlenB; have HCA := Lib.hid hcA; have HCB := Lib.hid hcB; have HG := Lib.hid hget
  clear hlenA hlenB hcA hcB hget
  go_enter Try.func22, Try.ntmps22
  go_wp2_with fail
  go_loopw [5] (fun i wr => ∃ k : Nat, k ≤ lb ∧ i = .int .i64 k ∧ Below w.heap.size w wr) (fun i _ => lb - (intOf i).toNat)
  case atStart => exact ⟨0, Nat.zero_le _, rfl, Below.refl _ _⟩
  case round =>
    obtain ⟨k, hkb, rfl, hbel⟩ := hrel
    by_cases hlt : k < lb
    · obtain ⟨rfl, hba, hpa⟩ := HCA.out k (by omega)
      obtain ⟨rfl, hbb, hpb⟩ := HCB.out k hlt
      rw [HG.out k hlt] at hpa
      obtain ⟨c0, c1, c2⟩ := hpa.below hbel hba
      obtain ⟨d0, d1, d2⟩ := hpb.below hbel hbb
      clear hpa hpb
      generalize ys.getD k pd = x at *
      obtain ⟨xt, x, xn⟩ := x
      dsimp only at c0 c1 c2 d0 d1 d2
      have hk0 : (0 : Int) ≤ (k : Int) := by omega
      have hk1 : (k : Int) < (la : Int) := by omega
      have hk2 : (k : Int) < (lb : Int) := by omega
      go_wp2_with fail
      go_quiet (fail)
      go_wp2_with fail
      go_roundw
      case rel => exact ⟨k + 1, by omega, by go_num, below_drewN hbel _⟩
      case measure => simp [intOf]; omega
    · go_wp2_with fail
      go_ret
      exact ⟨rfl, hbel⟩

set_option maxRecDepth 100000 in
set_option maxHeartbeats 2000000 in
theorem begins_no (ao bo : Option Addr) (la ca lb cb : Nat) (xs ys : List Pt) (w : World) (hA : SeesP w (.slice ao la ca) xs) (hB : SeesP w (.slice bo lb cb) ys) (hla : la ≤ 1000000) (_hlb : lb ≤ 1000000) (hp : ¬ ys <+: xs) :
    Calls Try.prog 22 #[.slice ao la ca, .slice bo lb cb] w (Gives (.bool false) w) := by
  obtain ⟨hlenA, ba, offa, hcA⟩ := hA.get
  obtain ⟨hlenB, bb, offb, hcB⟩ := hB.get
  by_cases hle : la < lb
  · clear hA hB hp hcA hcB hlenA hlenB
    go_enter Try.func22, Try.ntmps22
    go_wp2_with fail
    go_ret
    exact ⟨rfl, Below.refl _ _⟩
  · have hnot : ¬ ∀ k, k < lb → xs.getD k pd = ys.getD k pd := fun h => hp (prefix_of (by omega) (fun k hk => h k (by omega)))
    have HN := Lib.hid hnot
    clear hA hB hp hnot
    have HLA := Lib.hid hlenA; have HLB := Lib.hid hlenB; have HCA := Lib.hid hcA; have HCB := Lib.hid hcB
    clear hlenA hlenB hcA hcB
    go_enter Try.func22, Try.ntmps22
    go_wp2_with fail
    go_loopw [5] (fun i wr => ∃ k : Nat, k ≤ lb ∧ i = .int .i64 k ∧ (∀ j, j < k → xs.getD j pd = ys.getD j pd) ∧ Below w.heap.size w wr) (fun i _ => lb - (intOf i).toNat)
    case atStart => exact ⟨0, Nat.zero_le _, rfl, fun j hj => by omega, Below.refl _ _⟩
    case round =>
      obtain ⟨k, hkb, rfl, hj, hbel⟩ := hrel
      have HJ := Lib.hid hj; clear hj
      by_cases hlt : k < lb
      · obtain ⟨rfl, hba, hpa⟩ := HCA.out k (by omega)
        obtain ⟨rfl, hbb, hpb⟩ := HCB.out k hlt
        have hk0 : (0 : Int) ≤ (k : Int) := by omega
        have hk1 : (k : Int) < (la : Int) := by omega
        have hk2 : (k : Int) < (lb : Int) := by omega
        by_cases he : xs.getD k pd = ys.getD k pd
        · have HJ2 : Hid (∀ j, j < k + 1 → xs.getD j pd = ys.getD j pd) := fun j hj => by
            by_cases e : j = k
            · rw [e]; exact he
            · exact HJ.out j (by omega)
          rw [he] at hpa
          obtain ⟨c0, c1, c2⟩ := hpa.below hbel hba
          obtain ⟨d0, d1, d2⟩ := hpb.below hbel hbb
          clear hpa hpb he
          generalize ys.getD k pd = x at c0 c1 c2 d0 d1 d2
          obtain ⟨xt, x, xn⟩ := x
          dsimp only at c0 c1 c2 d0 d1 d2
          go_wp2_with fail
          go_quiet (fail)
          go_wp2_with fail
          go_roundw
          case rel => exact ⟨k + 1, by omega, by go_num, HJ2.out, below_drewN hbel _⟩
          case measure => simp [intOf]; omega
        · obtain ⟨c0, c1, c2⟩ := hpa.below hbel hba
          obtain ⟨d0, d1, d2⟩ := hpb.below hbel hbb
          clear hpa hpb
          generalize ys.getD k pd = x at *
          generalize xs.getD k pd = y at *
          obtain ⟨xt, x, xn⟩ := x
          obtain ⟨yt, y, yn⟩ := y
          dsimp only at c0 c1 c2 d0 d1 d2
          by_cases ht : yt = xt
          · subst ht
            by_cases hs : y = x
            · subst hs
              have hn : ((yn : Int) == (xn : Int)) = false := by rw [beq_eq_false_iff_ne]; intro e; exact he (by rw [Int.ofNat.inj e])
              clear he
              go_wp2_with fail
              go_quiet (fail)
              go_wp2_with fail
              go_ret
              exact ⟨rfl, below_drewN hbel _⟩
            · have hs1 : (y.toList == x.toList) = false := by
                rw [beq_eq_false_iff_ne]; intro e
                rw [ByteArray.toList_eq, ByteArray.toList_eq] at e
                exact hs (ByteArray.ext (Array.toList_inj.1 e))
              clear he hs
              go_wp2_with fail
              go_quiet (fail)
              go_wp2_with fail
              go_ret
              exact ⟨rfl, below_drewN hbel _⟩
          · obtain rfl : yt = !xt := by cases xt <;> cases yt <;> simp_all
            cases xt
            all_goals
              clear he ht
              go_wp2_with fail
              go_quiet (fail)
              go_wp2_with fail
              go_ret
              exact ⟨rfl, below_drewN hbel _⟩
      · exfalso
        exact HN.out (fun j hj => HJ.out j (by omega))

set_option maxRecDepth 100000 in
set_option maxHeartbeats 4000000 in
theorem same_yes (ao bo : Option Addr) (la ca lb cb : Nat) (xs : List Pt) (w : World) (hA : SeesP w (.slice ao la ca) xs) (hB : SeesP w (.slice bo lb cb) xs) (hla : la ≤ 1000000000) :
    Calls Try.prog 20 #[.slice ao la ca, .slice bo lb cb] w (Gives (.bool true) w) := by
  obtain ⟨hlenA, ba, offa, hcA⟩ := hA.get
  obtain ⟨hlenB, bb, offb, hcB⟩ := hB.get
  obtain rfl : la = lb := by omega
  clear hA hB
  have HLA := Lib.hid hlenA; have HCA := Lib.hid hcA; have HCB := Lib.hid hcB
  clear hlenA hlenB hcA hcB
  go_enter Try.func20, Try.ntmps20
  go_wp2_with fail
  go_loopw [5] (fun i wr => ∃ k : Nat, k ≤ la ∧ i = .int .i64 k ∧ Below w.heap.size w wr) (fun i _ => la - (intOf i).toNat)
  case atStart => exact ⟨0, Nat.zero_le _, rfl, Below.refl _ _⟩
  case round =>
    obtain ⟨k, hkb, rfl, hbel⟩ := hrel
    by_cases hlt : k < la
    · obtain ⟨rfl, hba, hpa⟩ := HCA.out k hlt
      obtain ⟨rfl, hbb, hpb⟩ := HCB.out k hlt
      obtain ⟨c0, c1, c2⟩ := hpa.below hbel hba
      obtain ⟨d0, d1, d2⟩ := hpb.below hbel hbb
      clear hpa hpb
      generalize xs.getD k pd = x at *
      obtain ⟨xt, x, xn⟩ := x
      dsimp only at c0 c1 c2 d0 d1 d2
      have hk0 : (0 : Int) ≤ (k : Int) := by omega
      have hk1 : (k : Int) < (la : Int) := by omega
      go_wp2_with fail
      go_quiet (fail)
      go_wp2_with fail
      go_roundw
      case rel => exact ⟨k + 1, by omega, by go_num, below_drewN hbel _⟩
      case measure => simp [intOf]; omega
    · go_wp2_with fail
      go_ret
      exact ⟨rfl, hbel⟩

end Go.Proofs.Ytognddehcfjiaaa
