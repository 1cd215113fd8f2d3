/- Walks of layer 4's statements' own helpers: Great, Same, awake. -/
import Derived.Test.YtalmkgjinabceaaDoorFrD
import Derived.Deep.QuietTactic
namespace Go.Proofs.YtalmkgjinabceaaDoor
open Go.RowKit

/-- How many bytes texts have. -/
def totS (ss : List ByteArray) : Nat := (ss.map ByteArray.size).sum
theorem totS_snoc {ss : List ByteArray} {k : Nat} (h : k < ss.length) : totS (ss.take (k + 1)) = totS (ss.take k) + (ss.getD k ByteArray.empty).size := by
  rw [List.take_succ_eq_append_getElem h, getD_at h]; unfold totS; simp only [List.map_append, List.map_cons, List.map_nil, List.sum_append, List.sum_cons, List.sum_nil, Nat.add_zero]
theorem totS_mem {ss : List ByteArray} {s : ByteArray} (h : s ∈ ss) : s.size ≤ totS ss := by
  induction ss with
  | nil => cases h
  | cons x ss ih =>
    unfold totS at ih ⊢
    rw [List.map_cons, List.sum_cons]
    rcases List.mem_cons.1 h with rfl | h
    · omega
    · have := ih h; omega

/-- Is it said that records are more than statements go through, or are they few? -/
def Grt (ss : List ByteArray) (w : World) (e : Ending) (w' : World) : Prop := ∃ g, e = .returned (.bool g) ∧ w = w' ∧ (g = false → ss.length ≤ 60 ∧ totS ss ≤ 4000)

set_option maxHeartbeats 1000000 in
theorem great_any (ao : Option Addr) (len cap : Nat) (ss : List ByteArray) (w : World) (hV : SeesS w (.slice ao len cap) ss) (hz : ∀ s ∈ ss, s.size ≤ 9223372036854775807) :
    Calls Tryd.prog 14 #[.slice ao len cap] w (Grt ss w) := by
  obtain ⟨hlen, b, off, hcell⟩ := hV.get
  clear hV
  by_cases h60 : 60 < len
  · have h60' : (60 : Int) < len := by omega
    clear hcell h60
    go_enter Tryd.func14, Tryd.ntmps14
    go_wp2_with fail
    go_ret
    exact ⟨_, rfl, rfl, fun h => by cases h⟩
  · have hl : len ≤ 60 := by omega
    have hl' : (len : Int) ≤ 60 := by omega
    clear h60
    have HL := Lib.hid hl; clear hl
    have HC := Lib.hid hcell; clear hcell
    have HZ := Lib.hid hz; clear hz
    have HLEN := Lib.hid hlen; clear hlen
    go_enter Tryd.func14, Tryd.ntmps14
    go_wp2_with fail
    go_loop [3, 4] (fun n i => ∃ k q : Nat, k ≤ len ∧ i = .int .i64 k ∧ n = .int .i64 q ∧ (q : Int) ≤ 4000 * (k : Int) ∧ Hid (q = totS (ss.take k))) (fun _ i => len - (intOf i).toNat)
    case atStart => exact ⟨0, 0, Nat.zero_le _, rfl, rfl, by omega, rfl⟩
    case round =>
      obtain ⟨k, q, hk, rfl, rfl, hq, HQ⟩ := hrel
      by_cases hlt : k < len
      · obtain ⟨ha, hb, hc⟩ := HC.out k hlt
        have hk' : k < ss.length := by have := HLEN.out; omega
        have hsz : (ss.getD k ByteArray.empty).size ≤ 9223372036854775807 := by
          rw [getD_at hk']; exact HZ.out _ (List.getElem_mem hk')
        have HU : Hid (totS (ss.take (k + 1)) = q + (ss.getD k ByteArray.empty).size) := by rw [totS_snoc hk', HQ.out]; exact Lib.hid rfl
        subst ha
        clear hk'
        generalize ss.getD k ByteArray.empty = s at *
        by_cases hlong : (4000 : Int) < (s.size : Int)
        · go_wp2_with fail
          go_ret
          exact ⟨_, rfl, rfl, fun h => by cases h⟩
        · have hsm : (s.size : Int) ≤ 4000 := by omega
          clear hlong hsz
          go_wp2_with fail
          go_round
          case rel => exact ⟨k + 1, q + s.size, by omega, by go_num, by go_num, by omega, HU.symm⟩
          case measure => simp [intOf]; omega
      · obtain rfl : len = k := by omega
        have HE : Hid (q = totS ss) := by
          have := HQ.out
          rw [List.take_of_length_le (by have := HLEN.out; omega)] at this
          exact this
        go_wp2_with fail
        go_ret
        refine ⟨_, rfl, rfl, fun h => ⟨by have := HL.out; have := HLEN.out; omega, ?_⟩⟩
        rw [← HE.out]
        simp at h
        omega

set_option maxRecDepth 100000 in
set_option maxHeartbeats 4000000 in
theorem same_yes (ao bo : Option Addr) (la ca lb cb : Nat) (xs : List ByteArray) (w : World) (hA : SeesS w (.slice ao la ca) xs) (hB : SeesS w (.slice bo lb cb) xs) (hla : la ≤ 1000000000) :
    Calls Tryd.prog 12 #[.slice ao la ca, .slice bo lb cb] w (Gives (.bool true) w) := by
  obtain ⟨hlenA, ba, offa, hcA⟩ := hA.get
  obtain ⟨hlenB, bb, offb, hcB⟩ := hB.get
  obtain rfl : la = lb := by omega
  clear hA hB
  have HLA := Lib.hid hlenA; have HCA := Lib.hid hcA; have HCB := Lib.hid hcB
  clear hlenA hlenB hcA hcB
  go_enter Tryd.func12, Tryd.ntmps12
  go_wp2_with fail
  go_loopw [5] (fun i wr => ∃ k : Nat, k ≤ la ∧ i = .int .i64 k ∧ Below w.heap.size w wr) (fun i _ => la - (intOf i).toNat)
  case atStart => exact ⟨0, Nat.zero_le _, rfl, Below.refl _ _⟩
  case round =>
    obtain ⟨k, hkb, rfl, hbel⟩ := hrel
    by_cases hlt : k < la
    · obtain ⟨rfl, hba, hpa⟩ := HCA.out k hlt
      obtain ⟨rfl, hbb, hpb⟩ := HCB.out k hlt
      have c0 := (hbel.cell (p := ⟨ba, offa + k, none⟩) hba).trans hpa
      have d0 := (hbel.cell (p := ⟨bb, offb + k, none⟩) hbb).trans hpb
      clear hpa hpb
      generalize xs.getD k ByteArray.empty = x at *
      have hk0 : (0 : Int) ≤ (k : Int) := by omega
      have hk1 : (k : Int) < (la : Int) := by omega
      go_wp2_with fail
      go_quiet (fail)
      go_wp2_with fail
      go_roundw
      case rel => exact ⟨k + 1, by omega, by go_num, below_drewN hbel _⟩
      case measure => simp [intOf]; omega
    · go_wp2_with fail
      go_ret
      exact ⟨rfl, hbel⟩

/-- What is the call's own, as a slice that lies in memory. -/
theorem OwnsS.at {w : World} {base : Nat} {v : Value} {ss : List ByteArray} (h : OwnsS w base v ss) : ∃ ao cap, v = .slice ao ss.length cap ∧ SeesS w (.slice ao ss.length cap) ss := by
  have hs := h.sees
  rcases hs with ⟨rfl, a, c, rfl⟩ | ⟨b, off, c, rfl, h1, h2⟩
  · exact ⟨a, c, rfl, Or.inl ⟨rfl, a, c, rfl⟩⟩
  · exact ⟨_, c, rfl, Or.inr ⟨b, off, c, rfl, h1, h2⟩⟩

theorem rda_nil : Cr.rda [] = ([], 0) := Cr.rda_none (Cr.frl_short (by decide))

/-- Two texts of one byte. -/
def tA : ByteArray := ⟨#[97]⟩
def tB : ByteArray := ⟨#[98]⟩
/-- Their frames. -/
def abS : ByteArray := ⟨(Cr.frames [tA, tB]).toArray⟩
theorem ab_short : ∀ r ∈ [tA, tB], r.size ≤ 524288 := by decide
theorem ab_size : abS.size = 64 := by
  have h := frames_length [tA, tB]
  have : cellsS [tA, tB] = 2 := by decide
  rw [this] at h
  exact h
theorem ab_read : Cr.rda abS.data.toList = ([tA, tB], 64) := by
  have h := Cr.rda_frames [] [tA, tB] ab_short
  rw [List.append_nil, rda_nil] at h
  have h2 : (Cr.frames [tA, tB]).length = 64 := ab_size
  rw [h2] at h
  exact h
theorem ab_cut : Cr.rda (abS.extract 0 63).data.toList = ([tA], 32) := by
  have hA : (Cr.frame tA).length = 32 := by rw [Cr.frame_length]; decide
  have hB : (Cr.frame tB).length = 32 := by rw [Cr.frame_length]; decide
  have e : (abS.extract 0 63).data.toList = Cr.frames [tA] ++ (Cr.frame tB).take 31 := by
    rw [Cr.extract_list, List.drop_zero]
    show (Cr.frames [tA, tB]).take 63 = _
    rw [Cr.frames_cons, Cr.frames_one, Cr.frames_one, List.take_append, List.take_of_length_le (by omega), hA]
  rw [e, Cr.rda_frames _ [tA] (by decide), Cr.rda_none (Cr.frl_cut (by decide) (by omega)), Cr.frames_one, hA]
  rfl

theorem sees_two_of {w : World} {ao : Option Addr} {cap : Nat} {x y : ByteArray} (h : SeesS w (.slice ao 2 cap) [x, y]) : ∃ b off, ao = some ⟨b, off, none⟩ ∧ b < w.heap.size ∧ w.cell? ⟨b, off, none⟩ = some (.string x) ∧ w.cell? ⟨b, off + 1, none⟩ = some (.string y) := by
  obtain ⟨_, b, off, hc⟩ := h.get
  obtain ⟨h1, h2, h3⟩ := hc 0 (by omega)
  obtain ⟨_, _, h4⟩ := hc 1 (by omega)
  exact ⟨b, off, h1, h2, h3, h4⟩
theorem sees_one_of {w : World} {ao : Option Addr} {cap : Nat} {x : ByteArray} (h : SeesS w (.slice ao 1 cap) [x]) : ∃ b off, ao = some ⟨b, off, none⟩ ∧ b < w.heap.size ∧ w.cell? ⟨b, off, none⟩ = some (.string x) := by
  obtain ⟨_, b, off, hc⟩ := h.get
  obtain ⟨h1, h2, h3⟩ := hc 0 (by omega)
  exact ⟨b, off, h1, h2, h3⟩

set_option maxHeartbeats 1000000 in
theorem awake_any (w : World) (hT : Tab w) : Calls Tryd.prog 13 #[] w (Gives (.bool true) w) := by
  have h0 := hT.lt
  have HT := Lib.hid hT; clear hT
  have HW : Hid (wrV [tA, tB] = .tuple #[.string abS, .int .i64 0]) := wrV_ok ab_short
  have HR1 := Lib.hid ab_read
  have HR2 := Lib.hid ab_cut
  have HS := Lib.hid ab_size
  have hcut : (abS.extract 0 63).size ≤ 1000000000 := by rw [Cr.size_extract']; omega
  have hfull : abS.size ≤ 1000000000 := by rw [HS.out]; omega
  have hsz : ((abS.size : Int) == 64) = true := by rw [HS.out]; rfl
  have hsz2 : (63 : Int) ≤ abS.size := by rw [HS.out]; omega
  have hab : SeesS (w.alloc (.cells #[.string tA, .string tB] 9)) (.slice (some ⟨w.heap.size, 0, none⟩) 2 2) [tA, tB] := sees_two w tA tB _ 2
  have HAB := Lib.hid hab; clear hab
  generalize abS = S at *
  have eA : tA = ⟨#[97]⟩ := rfl
  have eB : tB = ⟨#[98]⟩ := rfl
  go_enter Tryd.func13, Tryd.ntmps13
  go_wp2_with fail
  refine (write_any _ _ _ [tA, tB] _ HAB.out (HT.out.alloc _) (by decide) (by decide)).mono ?_
  rintro e w1 ⟨rfl, hb1⟩
  rw [HW.out]
  have HB1 : Hid (Below w.heap.size w w1) := Lib.hid (((Below.refl _ w).alloc (Nat.le_refl _) _).trans (hb1.mono (by simp)))
  clear hb1
  go_wp2_with fail
  refine (fread_any _ _ (HT.out.below HB1.out) hcut).mono ?_
  rintro e w2 ⟨v2, rfl, ho2, hb2⟩
  rw [HR2.out] at ho2 ⊢
  have HB2 : Hid (Below w.heap.size w w2) := Lib.hid (Below.next HB1.out hb2)
  obtain ⟨a2, c2, rfl, hs2⟩ := ho2.at
  have HS2 := Lib.hid hs2; clear hs2 hb2 ho2
  dsimp only [List.length_cons, List.length_nil] at *
  go_wp2_with fail
  refine (fread_any _ _ (HT.out.below HB2.out) hfull).mono ?_
  rintro e w3 ⟨v3, rfl, ho3, hb3⟩
  rw [HR1.out] at ho3 ⊢
  have HB3 : Hid (Below w.heap.size w w3) := Lib.hid (Below.next HB2.out hb3)
  obtain ⟨a3, c3, rfl, hs3⟩ := ho3.at
  obtain ⟨b2, o2, rfl, hl2, hx2⟩ := sees_one_of (HS2.out.below hb3)
  obtain ⟨b3, o3, rfl, hl3, hx3, hy3⟩ := sees_two_of hs3
  clear ho3 hs3 hb3
  rw [eA] at hx2 hx3
  rw [eB] at hy3
  dsimp only [List.length_cons, List.length_nil] at *
  go_wp2_with fail
  go_ret
  exact ⟨rfl, HB3.out⟩

end Go.Proofs.YtalmkgjinabceaaDoor
