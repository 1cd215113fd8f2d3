/- The walk of batch.readOp. -/
import Derived.Test.YtohfjibhfbcanaaBtD
namespace Go.Proofs.Ytohfjibhfbcanaa
open Go.RowKit
set_option linter.unusedVariables false

/-- What readOp answers. -/
def roT (key val : ByteArray) (gone : Bool) (k : Int) (ok : Bool) : Value := .tuple #[.agg #[.string key, .string val, .bool gone], .int .i64 k, .bool ok]
def roN : Value := roT ⟨#[]⟩ ⟨#[]⟩ false 0 false

set_option maxHeartbeats 1000000 in
theorem readOp_empty (w : World) :
    Calls Try.prog 42 #[.string ByteArray.empty] w (Gives roN w) := by
  have he : ByteArray.empty.toList.isEmpty = true := empty_yes rfl
  go_enter Try.func42, Try.ntmps42
  go_wp2_with fail
  refine bodyPost_ret (v := roN) (by simp [results, Try.results42, go_sem, roN, roT]) rfl ⟨rfl, ?_⟩
  exact (Below.refl _ _).alloc (Nat.le_refl _) _

set_option maxHeartbeats 1000000 in
theorem readOp_bad (s : ByteArray) (c : Int) (w : World) (h1 : 1 ≤ s.size) (hn0 : c ≠ 0) (hn1 : c ≠ 1)
    (hx : ∀ w : World, (Instr.index 9 (.string s) (.int .i64 0)).run Try.prog w = .ok (.int .u8 c) w) :
    Calls Try.prog 42 #[.string s] w (Gives roN w) := by
  have hn0' : (c != 0) = true := by rw [bne_iff_ne]; exact hn0
  have hn1' : (c != 1) = true := by rw [bne_iff_ne]; exact hn1
  have he := isEmpty_of_size h1
  go_enter Try.func42, Try.ntmps42
  go_wp2_with fail
  refine bodyPost_ret (v := roN) (by simp [results, Try.results42, go_sem, roN, roT]) rfl ⟨rfl, ?_⟩
  exact (Below.refl _ _).alloc (Nat.le_refl _) _

set_option maxHeartbeats 1000000 in
theorem readOp_none (s : ByteArray) (c : Int) (w : World) (hs : s.size ≤ 1099511627776) (h1 : 1 ≤ s.size) (hc : c = 0 ∨ c = 1)
    (hx : ∀ w : World, (Instr.index 9 (.string s) (.int .i64 0)).run Try.prog w = .ok (.int .u8 c) w)
    (hv : rt (s.data.toList.drop 1) 64 = none) :
    Calls Try.prog 42 #[.string s] w (Gives roN w) := by
  have HV : Hid (rtV (s.data.toList.drop 1) 64 = noText) := Lib.hid (by unfold rtV; rw [hv])
  have he := isEmpty_of_size h1
  have HS := Lib.hid hs
  clear hv hs
  have h1i : (1 : Int) ≤ s.size := by omega
  rcases hc with rfl | rfl
  all_goals
    go_enter Try.func42, Try.ntmps42
    go_wp2_with fail
    refine (readText_any _ _ _ (by have := HS.out; rw [ByteArray.size_extract]; omega) (by omega)).mono ?_
    rintro e w1 ⟨rfl, hb⟩
    rw [Lib.extract_to_end, HV.out]
    obtain ⟨hcc, hf⟩ := bcell hb
    have hz : w.heap.size < w1.heap.size := by have := hb.size; simp at this; omega
    unfold noText
    go_wp2_with fail
    refine bodyPost_ret (v := roN) (by simp [results, Try.results42, go_sem, roN, roT, hcc]) rfl ⟨rfl, ?_⟩
    exact (((Below.next ((Below.refl _ _).alloc (Nat.le_refl _) _) hb).setCell (Nat.le_refl _) _).setCell (Nat.le_refl _) _).setCell (Nat.le_refl _) _

set_option maxHeartbeats 1000000 in
theorem readOp_gone (s t : ByteArray) (k : Nat) (w : World) (hs : s.size ≤ 1099511627776) (h1 : 1 ≤ s.size) (hk : (k : Int) ≤ 1099511627776)
    (hx : ∀ w : World, (Instr.index 9 (.string s) (.int .i64 0)).run Try.prog w = .ok (.int .u8 1) w)
    (hv : rtV (s.data.toList.drop 1) 64 = .tuple #[.string t, .int .i64 k, .bool true]) :
    Calls Try.prog 42 #[.string s] w (Gives (roT t ⟨#[]⟩ true (1 + (k : Int)) true) w) := by
  have HV := Lib.hid hv
  have he := isEmpty_of_size h1
  have HS := Lib.hid hs
  clear hv hs
  have h1i : (1 : Int) ≤ s.size := by omega
  go_enter Try.func42, Try.ntmps42
  go_wp2_with fail
  refine (readText_any _ _ _ (by have := HS.out; rw [ByteArray.size_extract]; omega) (by omega)).mono ?_
  rintro e w1 ⟨rfl, hb⟩
  rw [Lib.extract_to_end, HV.out]
  obtain ⟨hcc, hf⟩ := bcell hb
  have hz : w.heap.size < w1.heap.size := by have := hb.size; simp at this; omega
  go_wp2_with fail
  refine bodyPost_ret (v := roT t ⟨#[]⟩ true (1 + (k : Int)) true) (by simp [results, Try.results42, go_sem, roT, hcc]) rfl ⟨rfl, ?_⟩
  exact (((Below.next ((Below.refl _ _).alloc (Nat.le_refl _) _) hb).setCell (Nat.le_refl _) _).setCell (Nat.le_refl _) _).setCell (Nat.le_refl _) _

def roG (ok : Bool) (t u : ByteArray) (k m : Nat) : Value := if ok = true then roT t u false (1 + (k : Int) + m) true else roN
theorem roG_true (t u : ByteArray) (k m : Nat) : roG true t u k m = roT t u false (1 + (k : Int) + m) true := rfl
theorem roG_false (t u : ByteArray) (k m : Nat) : roG false t u k m = roN := rfl

set_option maxHeartbeats 1000000 in
theorem readOp_value (s t u : ByteArray) (k m : Nat) (ok : Bool) (w : World) (hs : s.size ≤ 1099511627776) (h1 : 1 ≤ s.size) (hk : 1 + (k : Int) ≤ s.size) (hm : (m : Int) ≤ 1099511627776)
    (hx : ∀ w : World, (Instr.index 9 (.string s) (.int .i64 0)).run Try.prog w = .ok (.int .u8 0) w)
    (hv : rtV (s.data.toList.drop 1) 64 = .tuple #[.string t, .int .i64 k, .bool true])
    (hu : rtV (s.data.toList.drop (1 + k)) 512 = .tuple #[.string u, .int .i64 m, .bool ok]) :
    Calls Try.prog 42 #[.string s] w (Gives (roG ok t u k m) w) := by
  have HV := Lib.hid hv
  have HU := Lib.hid hu
  have he := isEmpty_of_size h1
  have HS := Lib.hid hs
  have hsi : (s.size : Int) ≤ 1099511627776 := by omega
  clear hv hs hu
  have h1i : (1 : Int) ≤ s.size := by omega
  go_enter Try.func42, Try.ntmps42
  go_wp2_with fail
  refine (readText_any _ _ _ (by have := HS.out; rw [ByteArray.size_extract]; omega) (by omega)).mono ?_
  rintro e w1 ⟨rfl, hb⟩
  rw [Lib.extract_to_end, HV.out]
  have hz : w.heap.size < w1.heap.size := by have := hb.size; simp at this; omega
  have HB1 := Lib.hid (Below.next ((Below.refl _ _).alloc (Nat.le_refl _) _) hb)
  obtain ⟨hcc, hf⟩ := bcell hb
  clear hb
  go_wp2_with fail
  refine (readText_any _ _ _ (by have := HS.out; rw [ByteArray.size_extract]; omega) (by omega)).mono ?_
  rintro e w2 ⟨rfl, hb2⟩
  rw [Lib.extract_to_end, HU.out]
  obtain ⟨hcc2, hf2⟩ := bcell hb2
  have hz2 : w.heap.size < w2.heap.size := by have := hb2.size; omega
  have HB2 := Lib.hid (Below.next HB1.out hb2)
  clear hb2
  cases ok with
  | true =>
    rw [roG_true]
    go_wp2_with fail
    refine bodyPost_ret (v := roT t u false (1 + (k : Int) + m) true) (by simp [results, Try.results42, go_sem, roT, hcc, hcc2, hz]) rfl ⟨rfl, ?_⟩
    exact ((HB2.out.setCell (Nat.le_refl _) _).setCell (Nat.le_refl _) _).setCell (Nat.le_refl _) _
  | false =>
    rw [roG_false]
    go_wp2_with fail
    refine bodyPost_ret (v := roN) (by simp [results, Try.results42, go_sem, roN, roT, hcc, hcc2, hz]) rfl ⟨rfl, ?_⟩
    exact ((HB2.out.setCell (Nat.le_refl _) _).setCell (Nat.le_refl _) _).setCell (Nat.le_refl _) _

/-- What readOp answers. -/
def roV (o : Option (Ob × Nat)) : Value := match o with
  | none => roN
  | some (o, k) => roT o.key o.val o.gone k true

theorem drop_cons' (s : ByteArray) (h : 1 ≤ s.size) : s.data.toList = s[0] :: s.data.toList.drop 1 := by
  have h2 : 0 < s.data.toList.length := by rw [length_list]; omega
  have := List.drop_eq_getElem_cons h2
  rw [List.drop_zero] at this
  exact this

/-- readOp, of every text of at most 2^40 bytes. -/
theorem readOp_any (s : ByteArray) (w : World) (hs : s.size ≤ 1099511627776) :
    Calls Try.prog 42 #[.string s] w (Gives (roV (Bt.ro s.data.toList)) w) := by
  by_cases h0 : s.size = 0
  · obtain rfl := empty_of_size h0
    exact readOp_empty w
  · have h1 : 1 ≤ s.size := by omega
    have hx := index_byte s 0 h1
    have hd := drop_cons' s h1
    generalize s[0] = b at *
    have hlt := b.toNat_lt
    have hll : (s.data.toList.drop 1).length ≤ 1099511627776 := by rw [List.length_drop, length_list]; omega
    by_cases hb : b = 0 ∨ b = 1
    · have hro : Bt.ro s.data.toList = Bt.rr s.data.toList := by rw [hd, Bt.ro_rr _ _ hb]
      cases h64 : rt (s.data.toList.drop 1) 64 with
      | none =>
        have e : Bt.ro s.data.toList = none := by rw [hro, hd, Bt.rr_cons, h64]
        rw [e]
        have hc : (b.toNat : Int) = 0 ∨ (b.toNat : Int) = 1 := by
          rcases hb with rfl | rfl
          · exact Or.inl rfl
          · exact Or.inr rfl
        exact readOp_none s _ w hs h1 hc hx h64
      | some x =>
        obtain ⟨t, k⟩ := x
        have hk2 := (Bt.txt_rt h64).2.1
        rw [List.length_drop, length_list] at hk2
        have hv : rtV (s.data.toList.drop 1) 64 = .tuple #[.string ⟨t.toArray⟩, .int .i64 k, .bool true] := by unfold rtV; rw [h64]
        rcases hb with rfl | rfl
        · cases h512 : rt (s.data.toList.drop (1 + k)) 512 with
          | none =>
            have e : Bt.ro s.data.toList = none := by
              rw [hro, hd, Bt.rr_cons, h64]
              simp only
              rw [if_neg (by decide), List.drop_drop, h512]
            rw [e]
            have hu : rtV (s.data.toList.drop (1 + k)) 512 = .tuple #[.string ⟨#[]⟩, .int .i64 (0 : Nat), .bool false] := by unfold rtV; rw [h512]; rfl
            exact readOp_value s _ _ k 0 false w hs h1 (by omega) (by omega) hx hv hu
          | some y =>
            obtain ⟨u, m⟩ := y
            have hm2 := (Bt.txt_rt h512).2.1
            rw [List.length_drop, length_list] at hm2
            have e : Bt.ro s.data.toList = some (⟨⟨t.toArray⟩, ⟨u.toArray⟩, false⟩, 1 + k + m) := by
              rw [hro, hd, Bt.rr_cons, h64]
              simp only
              rw [if_neg (by decide), List.drop_drop, h512]
            rw [e]
            have hu : rtV (s.data.toList.drop (1 + k)) 512 = .tuple #[.string ⟨u.toArray⟩, .int .i64 m, .bool true] := by unfold rtV; rw [h512]
            have h := readOp_value s _ _ k m true w hs h1 (by omega) (by omega) hx hv hu
            have e2 : (1 + (k : Int) + m) = ((1 + k + m : Nat) : Int) := by omega
            rw [roG_true, e2] at h
            exact h
        · have e : Bt.ro s.data.toList = some (⟨⟨t.toArray⟩, ByteArray.empty, true⟩, 1 + k) := by
            rw [hro, hd, Bt.rr_cons, h64]
            simp only [if_true]
          rw [e]
          have h := readOp_gone s _ k w hs h1 (by omega) hx hv
          have e2 : (1 + (k : Int)) = ((1 + k : Nat) : Int) := by omega
          rw [e2] at h
          exact h
    · have hro : Bt.ro s.data.toList = none := by rw [hd, Bt.ro_cons, if_neg hb]
      rw [hro]
      refine readOp_bad s _ w h1 ?_ ?_ hx
      · intro e
        exact hb (Or.inl (UInt8.toNat.inj (by show b.toNat = 0; omega)))
      · intro e
        exact hb (Or.inr (UInt8.toNat.inj (by show b.toNat = 1; omega)))

end Go.Proofs.Ytohfjibhfbcanaa
