/- The walk of BatchReads. -/
import Derived.Test.YtohfjibhfbcanaaBtY
import Derived.Test.YtohfjibhfbcanaaBtCmp
namespace Go.Proofs.Ytohfjibhfbcanaa
open Go.RowKit
set_option linter.unusedVariables false
set_option linter.unusedSimpArgs false

set_option maxHeartbeats 4000000 in
theorem reads_small (S : ByteArray) (w : World) (hs : S.size ≤ 12000) :
    Calls Try.prog 5 #[.string S] w (Gives (.bool true) w) := by
  have hd : ∀ W, Calls Try.prog 12 #[.string S] W (DecRead (Bt.decl S.data.toList) W) := fun W => decode_any S W (by omega)
  have hr : ∀ W, Calls Try.prog 21 #[.string S] W (DecRead (Bt.decl S.data.toList) W) := fun W => refDecode_any S W (by omega)
  have hsi : ¬ (12000 : Int) < S.size := by omega
  obtain ⟨seq, ops, ok, hst⟩ : ∃ (seq : Nat) (ops : List Ob) (ok : Bool), ∀ W e W', DecRead (Bt.decl S.data.toList) W e W' → Below W.heap.size W W' ∧ ops.length ≤ 16 ∧ ∃ ao cap, e = .returned (.tuple #[.agg #[.int .u64 seq, .slice ao ops.length cap], .bool ok]) ∧ SeesO W' (.slice ao ops.length cap) ops := by
    cases hdc : Bt.decl S.data.toList with
    | none =>
      refine ⟨0, [], false, fun W e W' h => ⟨h.1, by simp, none, 0, ?_, Or.inl ⟨rfl, _, _, rfl⟩⟩⟩
      rcases h.2 with ⟨_, rfl⟩ | ⟨a, b, c, d, hh, _⟩
      · rfl
      · cases hh
    | some x =>
      obtain ⟨seq, ops⟩ := x
      refine ⟨seq, ops, true, fun W e W' h => ⟨h.1, (Bt.chk_ok (Bt.encl_decl hdc).2.1).1, ?_⟩⟩
      rcases h.2 with ⟨hh, _⟩ | ⟨a, b, c, d, hh, rfl, hown⟩
      · cases hh
      · obtain ⟨rfl, rfl⟩ : seq = a ∧ ops = b := by simpa using hh
        exact ⟨c, d, rfl, hown.sees⟩
  have HST := Lib.hid hst
  have HD := Lib.hid hd
  have HRD := Lib.hid hr
  clear hst hd hr
  generalize hlen : ops.length = len at *
  have HLEN := Lib.hid hlen
  clear hlen
  go_enter Try.func5, Try.ntmps5
  go_wp2_with fail
  refine (HD.out _).mono ?_
  rintro e w1 hq1
  obtain ⟨hb1, hl16, a1, c1, rfl, hs1⟩ := HST.out _ _ _ hq1
  have HB1 := Lib.hid hb1
  have HS1 := Lib.hid hs1
  have hd0 : (w1.alloc (.cells #[.int .u64 seq, .slice a1 len c1] 27)).cell? ⟨w1.heap.size, 0, none⟩ = some (.int .u64 seq) := by rw [World.cell?_alloc_new]; rfl
  have hd1 : (w1.alloc (.cells #[.int .u64 seq, .slice a1 len c1] 27)).cell? ⟨w1.heap.size, 1, none⟩ = some (.slice a1 len c1) := by rw [World.cell?_alloc_new]; rfl
  have hz1 : w1.heap.size < (w1.alloc (.cells #[.int .u64 seq, .slice a1 len c1] 27)).heap.size := by simp
  have HW1 : Hid (Below w1.heap.size w1 (w1.alloc (.cells #[.int .u64 seq, .slice a1 len c1] 27))) := Lib.hid ((Below.refl _ _).alloc (Nat.le_refl _) _)
  clear hq1 hb1 hs1
  go_wp2_with fail
  refine (HRD.out _).mono ?_
  rintro e w2 hq2
  obtain ⟨hb2, -, a2, c2, rfl, hs2⟩ := HST.out _ _ _ hq2
  have HB2 := Lib.hid (Below.next (Below.next HB1.out HW1.out) hb2)
  have HS2 := Lib.hid hs2
  have HS12 := Lib.hid (HS1.out.below (Below.next HW1.out hb2))
  have hz2 : w1.heap.size < w2.heap.size := by have := hb2.size; omega
  have he0 := (hb2.cell (p := ⟨w1.heap.size, 0, none⟩) hz1).trans hd0
  have he1 := (hb2.cell (p := ⟨w1.heap.size, 1, none⟩) hz1).trans hd1
  clear hq2 hb2 hs2 hd0 hd1 hz1
  go_wp2_with fail
  have k0 : (w2.alloc (.cells #[.int .u64 seq, .slice a2 len c2] 43)).cell? ⟨w2.heap.size, 0, none⟩ = some (.int .u64 seq) := by rw [World.cell?_alloc_new]; rfl
  have k1 : (w2.alloc (.cells #[.int .u64 seq, .slice a2 len c2] 43)).cell? ⟨w2.heap.size, 1, none⟩ = some (.slice a2 len c2) := by rw [World.cell?_alloc_new]; rfl
  have g0 : (w2.alloc (.cells #[.int .u64 seq, .slice a2 len c2] 43)).cell? ⟨w1.heap.size, 0, none⟩ = some (.int .u64 seq) := (World.cell?_alloc_past _ _ _ hz2).trans he0
  have g1 : (w2.alloc (.cells #[.int .u64 seq, .slice a2 len c2] 43)).cell? ⟨w1.heap.size, 1, none⟩ = some (.slice a1 len c1) := (World.cell?_alloc_past _ _ _ hz2).trans he1
  have hzz : w2.heap.size < (w2.alloc (.cells #[.int .u64 seq, .slice a2 len c2] 43)).heap.size := by simp
  have HW2 : Hid (Below w2.heap.size w2 (w2.alloc (.cells #[.int .u64 seq, .slice a2 len c2] 43)).drew) := Lib.hid ((Below.refl _ _).alloc (Nat.le_refl _) _).drew
  generalize w2.alloc (.cells #[.int .u64 seq, .slice a2 len c2] 43) = W2 at *
  have HGV : Hid (∀ W, Calls Try.prog 18 #[.agg #[.int .u64 seq, .slice a1 len c1]] W (Gives (.agg #[.int .u64 seq, .slice a1 len c1]) W)) := Lib.hid (fun W => given_any seq a1 len c1 W)
  have HSM : Hid (∀ W, Below w2.heap.size w2 W → Calls Try.prog 22 #[.agg #[.int .u64 seq, .slice a1 len c1], .agg #[.int .u64 seq, .slice a2 len c2]] W (Gives (.bool true) W)) := Lib.hid (fun W h => same_yes seq a1 len c1 a2 c2 ops W (HS12.out.below h) (HS2.out.below h) (by omega))
  clear he0 he1 HD HRD HST
  cases ok
  all_goals
    go_region_held3 (fun w' => w'.cell? ⟨w1.heap.size, 0, none⟩ = some (.int .u64 seq) ∧ w'.cell? ⟨w1.heap.size, 1, none⟩ = some (.slice a1 len c1) ∧ w'.cell? ⟨w2.heap.size, 0, none⟩ = some (.int .u64 seq) ∧ w'.cell? ⟨w2.heap.size, 1, none⟩ = some (.slice a2 len c2))
      (first
        | go_keep
        | (go_split_ands
           have hy3 : W2.heap.size ≤ w3.heap.size := hb3.size
           have hy4 : w3.heap.size ≤ w4.heap.size := hb4.size
           refine ⟨?_, ?_, ?_, ?_⟩
           · (refine (hb5.cell (p := ⟨w1.heap.size, 0, none⟩) (by show w1.heap.size < w4.heap.size; omega)).trans ?_; assumption)
           · (refine (hb5.cell (p := ⟨w1.heap.size, 1, none⟩) (by show w1.heap.size < w4.heap.size; omega)).trans ?_; assumption)
           · (refine (hb5.cell (p := ⟨w2.heap.size, 0, none⟩) (by show w2.heap.size < w4.heap.size; omega)).trans ?_; assumption)
           · (refine (hb5.cell (p := ⟨w2.heap.size, 1, none⟩) (by show w2.heap.size < w4.heap.size; omega)).trans ?_; assumption))
        | (go_split_ands
           have hy3 : W2.heap.size ≤ w3.heap.size := hb3.size
           refine ⟨?_, ?_, ?_, ?_⟩
           · (refine (hb4.cell (p := ⟨w1.heap.size, 0, none⟩) (by show w1.heap.size < w3.heap.size; omega)).trans ?_; assumption)
           · (refine (hb4.cell (p := ⟨w1.heap.size, 1, none⟩) (by show w1.heap.size < w3.heap.size; omega)).trans ?_; assumption)
           · (refine (hb4.cell (p := ⟨w2.heap.size, 0, none⟩) (by show w2.heap.size < w3.heap.size; omega)).trans ?_; assumption)
           · (refine (hb4.cell (p := ⟨w2.heap.size, 1, none⟩) (by show w2.heap.size < w3.heap.size; omega)).trans ?_; assumption))
        | (go_split_ands
           refine ⟨?_, ?_, ?_, ?_⟩
           · exact (hb3.cell (p := ⟨w1.heap.size, 0, none⟩) (by show w1.heap.size < W2.heap.size; omega)).trans g0
           · exact (hb3.cell (p := ⟨w1.heap.size, 1, none⟩) (by show w1.heap.size < W2.heap.size; omega)).trans g1
           · exact (hb3.cell (p := ⟨w2.heap.size, 0, none⟩) hzz).trans k0
           · exact (hb3.cell (p := ⟨w2.heap.size, 1, none⟩) hzz).trans k1))
      (first
        | (go_at_call 18; (refine (HGV.out _).mono ?_); rintro e w3 ⟨rfl, hb3⟩)
        | (go_at_call 22; refine (HSM.out _ (Below.next HW2.out hb3)).mono ?_; rintro e w4 ⟨rfl, hb4⟩)
        | (go_at_call 15; refine (awake_any _).mono ?_; rintro e w5 ⟨rfl, hb5⟩))
    have HF := Lib.hid (Below.next (Below.next (Below.next (Below.next HB2.out HW2.out) hb3) hb4) hb5)
    clear hb3 hb4 hb5
    go_wp2_with fail
    go_ret
    exact ⟨rfl, HF.out⟩


set_option maxHeartbeats 4000000 in
theorem reads_cut (S0 : ByteArray) (w : World) (hS0 : 12000 < S0.size) (hm0 : S0.size ≤ 9223372036854775807) :
    Calls Try.prog 5 #[.string S0] w (Gives (.bool true) w) := by
  obtain ⟨S, hSx⟩ : ∃ S, S0.extract 0 12000 = S := ⟨_, rfl⟩
  have hs : S.size ≤ 12000 := by rw [← hSx, ByteArray.size_extract]; omega
  have HSX := Lib.hid hSx
  clear hSx
  have hd : ∀ W, Calls Try.prog 12 #[.string S] W (DecRead (Bt.decl S.data.toList) W) := fun W => decode_any S W (by omega)
  have hr : ∀ W, Calls Try.prog 21 #[.string S] W (DecRead (Bt.decl S.data.toList) W) := fun W => refDecode_any S W (by omega)
  have hsi : (12000 : Int) < S0.size := by omega
  obtain ⟨seq, ops, ok, hst⟩ : ∃ (seq : Nat) (ops : List Ob) (ok : Bool), ∀ W e W', DecRead (Bt.decl S.data.toList) W e W' → Below W.heap.size W W' ∧ ops.length ≤ 16 ∧ ∃ ao cap, e = .returned (.tuple #[.agg #[.int .u64 seq, .slice ao ops.length cap], .bool ok]) ∧ SeesO W' (.slice ao ops.length cap) ops := by
    cases hdc : Bt.decl S.data.toList with
    | none =>
      refine ⟨0, [], false, fun W e W' h => ⟨h.1, by simp, none, 0, ?_, Or.inl ⟨rfl, _, _, rfl⟩⟩⟩
      rcases h.2 with ⟨_, rfl⟩ | ⟨a, b, c, d, hh, _⟩
      · rfl
      · cases hh
    | some x =>
      obtain ⟨seq, ops⟩ := x
      refine ⟨seq, ops, true, fun W e W' h => ⟨h.1, (Bt.chk_ok (Bt.encl_decl hdc).2.1).1, ?_⟩⟩
      rcases h.2 with ⟨hh, _⟩ | ⟨a, b, c, d, hh, rfl, hown⟩
      · cases hh
      · obtain ⟨rfl, rfl⟩ : seq = a ∧ ops = b := by simpa using hh
        exact ⟨c, d, rfl, hown.sees⟩
  have HST := Lib.hid hst
  have HD := Lib.hid hd
  have HRD := Lib.hid hr
  clear hst hd hr
  generalize hlen : ops.length = len at *
  have HLEN := Lib.hid hlen
  clear hlen
  go_enter Try.func5, Try.ntmps5
  go_wp2_with fail
  rw [HSX.out]
  refine (HD.out _).mono ?_
  rintro e w1 hq1
  obtain ⟨hb1, hl16, a1, c1, rfl, hs1⟩ := HST.out _ _ _ hq1
  have HB1 := Lib.hid hb1
  have HS1 := Lib.hid hs1
  have hd0 : (w1.alloc (.cells #[.int .u64 seq, .slice a1 len c1] 27)).cell? ⟨w1.heap.size, 0, none⟩ = some (.int .u64 seq) := by rw [World.cell?_alloc_new]; rfl
  have hd1 : (w1.alloc (.cells #[.int .u64 seq, .slice a1 len c1] 27)).cell? ⟨w1.heap.size, 1, none⟩ = some (.slice a1 len c1) := by rw [World.cell?_alloc_new]; rfl
  have hz1 : w1.heap.size < (w1.alloc (.cells #[.int .u64 seq, .slice a1 len c1] 27)).heap.size := by simp
  have HW1 : Hid (Below w1.heap.size w1 (w1.alloc (.cells #[.int .u64 seq, .slice a1 len c1] 27))) := Lib.hid ((Below.refl _ _).alloc (Nat.le_refl _) _)
  clear hq1 hb1 hs1
  go_wp2_with fail
  refine (HRD.out _).mono ?_
  rintro e w2 hq2
  obtain ⟨hb2, -, a2, c2, rfl, hs2⟩ := HST.out _ _ _ hq2
  have HB2 := Lib.hid (Below.next (Below.next HB1.out HW1.out) hb2)
  have HS2 := Lib.hid hs2
  have HS12 := Lib.hid (HS1.out.below (Below.next HW1.out hb2))
  have hz2 : w1.heap.size < w2.heap.size := by have := hb2.size; omega
  have he0 := (hb2.cell (p := ⟨w1.heap.size, 0, none⟩) hz1).trans hd0
  have he1 := (hb2.cell (p := ⟨w1.heap.size, 1, none⟩) hz1).trans hd1
  clear hq2 hb2 hs2 hd0 hd1 hz1
  go_wp2_with fail
  have k0 : (w2.alloc (.cells #[.int .u64 seq, .slice a2 len c2] 43)).cell? ⟨w2.heap.size, 0, none⟩ = some (.int .u64 seq) := by rw [World.cell?_alloc_new]; rfl
  have k1 : (w2.alloc (.cells #[.int .u64 seq, .slice a2 len c2] 43)).cell? ⟨w2.heap.size, 1, none⟩ = some (.slice a2 len c2) := by rw [World.cell?_alloc_new]; rfl
  have g0 : (w2.alloc (.cells #[.int .u64 seq, .slice a2 len c2] 43)).cell? ⟨w1.heap.size, 0, none⟩ = some (.int .u64 seq) := (World.cell?_alloc_past _ _ _ hz2).trans he0
  have g1 : (w2.alloc (.cells #[.int .u64 seq, .slice a2 len c2] 43)).cell? ⟨w1.heap.size, 1, none⟩ = some (.slice a1 len c1) := (World.cell?_alloc_past _ _ _ hz2).trans he1
  have hzz : w2.heap.size < (w2.alloc (.cells #[.int .u64 seq, .slice a2 len c2] 43)).heap.size := by simp
  have HW2 : Hid (Below w2.heap.size w2 (w2.alloc (.cells #[.int .u64 seq, .slice a2 len c2] 43)).drew) := Lib.hid ((Below.refl _ _).alloc (Nat.le_refl _) _).drew
  generalize w2.alloc (.cells #[.int .u64 seq, .slice a2 len c2] 43) = W2 at *
  have HGV : Hid (∀ W, Calls Try.prog 18 #[.agg #[.int .u64 seq, .slice a1 len c1]] W (Gives (.agg #[.int .u64 seq, .slice a1 len c1]) W)) := Lib.hid (fun W => given_any seq a1 len c1 W)
  have HSM : Hid (∀ W, Below w2.heap.size w2 W → Calls Try.prog 22 #[.agg #[.int .u64 seq, .slice a1 len c1], .agg #[.int .u64 seq, .slice a2 len c2]] W (Gives (.bool true) W)) := Lib.hid (fun W h => same_yes seq a1 len c1 a2 c2 ops W (HS12.out.below h) (HS2.out.below h) (by omega))
  clear he0 he1 HD HRD HST
  cases ok
  all_goals
    go_region_held3 (fun w' => w'.cell? ⟨w1.heap.size, 0, none⟩ = some (.int .u64 seq) ∧ w'.cell? ⟨w1.heap.size, 1, none⟩ = some (.slice a1 len c1) ∧ w'.cell? ⟨w2.heap.size, 0, none⟩ = some (.int .u64 seq) ∧ w'.cell? ⟨w2.heap.size, 1, none⟩ = some (.slice a2 len c2))
      (first
        | go_keep
        | (go_split_ands
           have hy3 : W2.heap.size ≤ w3.heap.size := hb3.size
           have hy4 : w3.heap.size ≤ w4.heap.size := hb4.size
           refine ⟨?_, ?_, ?_, ?_⟩
           · (refine (hb5.cell (p := ⟨w1.heap.size, 0, none⟩) (by show w1.heap.size < w4.heap.size; omega)).trans ?_; assumption)
           · (refine (hb5.cell (p := ⟨w1.heap.size, 1, none⟩) (by show w1.heap.size < w4.heap.size; omega)).trans ?_; assumption)
           · (refine (hb5.cell (p := ⟨w2.heap.size, 0, none⟩) (by show w2.heap.size < w4.heap.size; omega)).trans ?_; assumption)
           · (refine (hb5.cell (p := ⟨w2.heap.size, 1, none⟩) (by show w2.heap.size < w4.heap.size; omega)).trans ?_; assumption))
        | (go_split_ands
           have hy3 : W2.heap.size ≤ w3.heap.size := hb3.size
           refine ⟨?_, ?_, ?_, ?_⟩
           · (refine (hb4.cell (p := ⟨w1.heap.size, 0, none⟩) (by show w1.heap.size < w3.heap.size; omega)).trans ?_; assumption)
           · (refine (hb4.cell (p := ⟨w1.heap.size, 1, none⟩) (by show w1.heap.size < w3.heap.size; omega)).trans ?_; assumption)
           · (refine (hb4.cell (p := ⟨w2.heap.size, 0, none⟩) (by show w2.heap.size < w3.heap.size; omega)).trans ?_; assumption)
           · (refine (hb4.cell (p := ⟨w2.heap.size, 1, none⟩) (by show w2.heap.size < w3.heap.size; omega)).trans ?_; assumption))
        | (go_split_ands
           refine ⟨?_, ?_, ?_, ?_⟩
           · exact (hb3.cell (p := ⟨w1.heap.size, 0, none⟩) (by show w1.heap.size < W2.heap.size; omega)).trans g0
           · exact (hb3.cell (p := ⟨w1.heap.size, 1, none⟩) (by show w1.heap.size < W2.heap.size; omega)).trans g1
           · exact (hb3.cell (p := ⟨w2.heap.size, 0, none⟩) hzz).trans k0
           · exact (hb3.cell (p := ⟨w2.heap.size, 1, none⟩) hzz).trans k1))
      (first
        | (go_at_call 18; (refine (HGV.out _).mono ?_); rintro e w3 ⟨rfl, hb3⟩)
        | (go_at_call 22; refine (HSM.out _ (Below.next HW2.out hb3)).mono ?_; rintro e w4 ⟨rfl, hb4⟩)
        | (go_at_call 15; refine (awake_any _).mono ?_; rintro e w5 ⟨rfl, hb5⟩))
    have HF := Lib.hid (Below.next (Below.next (Below.next (Below.next HB2.out HW2.out) hb3) hb4) hb5)
    clear hb3 hb4 hb5
    go_wp2_with fail
    go_ret
    exact ⟨rfl, HF.out⟩


theorem reads_walk (s : ByteArray) (w : World) (hs : s.size ≤ 9223372036854775807) :
    Calls Try.prog 5 #[.string s] w (Gives (.bool true) w) := by
  by_cases h : 12000 < s.size
  · exact reads_cut s w h hs
  · exact reads_small s w (by omega)

end Go.Proofs.Ytohfjibhfbcanaa
