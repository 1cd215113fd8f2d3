/- The walk of frame.Write. -/
import Derived.Test.YtalmkgjinabceaaDoorFrA
namespace Go.Proofs.YtalmkgjinabceaaDoor
open Go.RowKit

/-- Is no record too long? -/
def shortS (ss : List ByteArray) : Bool := ss.all fun s => decide (s.size ≤ 524288)
/-- What Write answers. -/
def wrV (ss : List ByteArray) : Value := if shortS ss = true then .tuple #[.string ⟨(Cr.frames ss).toArray⟩, .int .i64 0] else .tuple #[.string ⟨#[]⟩, .int .i64 3]
/-- How many cells records have. -/
def cellsS (ss : List ByteArray) : Nat := (ss.map Cr.cells).sum

theorem shortS_iff {ss : List ByteArray} : shortS ss = true ↔ ∀ s ∈ ss, s.size ≤ 524288 := by
  unfold shortS; simp
theorem wrV_ok {ss : List ByteArray} (h : ∀ s ∈ ss, s.size ≤ 524288) : wrV ss = .tuple #[.string ⟨(Cr.frames ss).toArray⟩, .int .i64 0] := by
  unfold wrV; rw [if_pos (shortS_iff.2 h)]
theorem wrV_long {ss : List ByteArray} {s : ByteArray} (hs : s ∈ ss) (h : 524288 < s.size) : wrV ss = .tuple #[.string ⟨#[]⟩, .int .i64 3] := by
  unfold wrV; rw [if_neg (fun hc => by have := shortS_iff.1 hc s hs; omega)]
theorem frames_length (ss : List ByteArray) : (Cr.frames ss).length = 32 * cellsS ss := by
  induction ss with
  | nil => rfl
  | cons s ss ih => rw [Cr.frames_cons, List.length_append, ih, Cr.frame_length]; unfold cellsS; rw [List.map_cons, List.sum_cons]; omega
theorem getD_at {ss : List ByteArray} {k : Nat} (h : k < ss.length) : ss.getD k ByteArray.empty = ss[k] := by simp [h]
theorem cellsS_snoc {ss : List ByteArray} {k : Nat} (h : k < ss.length) : cellsS (ss.take (k + 1)) = cellsS (ss.take k) + Cr.cells (ss.getD k ByteArray.empty) := by
  rw [List.take_succ_eq_append_getElem h, getD_at h]; unfold cellsS; simp only [List.map_append, List.map_cons, List.map_nil, List.sum_append, List.sum_cons, List.sum_nil, Nat.add_zero]
theorem frames_snoc {ss : List ByteArray} {k : Nat} (h : k < ss.length) : Cr.frames (ss.take (k + 1)) = Cr.frames (ss.take k) ++ Cr.frame (ss.getD k ByteArray.empty) := by
  rw [List.take_succ_eq_append_getElem h, getD_at h, Cr.frames_append, Cr.frames_one]
theorem cellsS_le {ss : List ByteArray} (h : ∀ s ∈ ss, s.size ≤ 524288) : cellsS ss ≤ 21846 * ss.length := by
  induction ss with
  | nil => exact Nat.zero_le _
  | cons s ss ih =>
    have h1 := cells_small (h s (List.mem_cons_self ..))
    have h2 := ih (fun x hx => h x (List.mem_cons_of_mem _ hx))
    unfold cellsS at h2 ⊢
    rw [List.map_cons, List.sum_cons, List.length_cons]; omega

set_option maxHeartbeats 1000000 in
theorem write_any (ao : Option Addr) (len cap : Nat) (ss : List ByteArray) (w : World) (hV : SeesS w (.slice ao len cap) ss) (hT : Tab w) (hz : ∀ s ∈ ss, s.size ≤ 9223372036854775807) (hl : len ≤ 1000000) :
    Calls Tryd.prog 10 #[.slice ao len cap] w (Gives (wrV ss) w) := by
  obtain ⟨hlen, b, off, hcell⟩ := hV.get
  clear hV
  have HC := Lib.hid hcell; clear hcell
  have HZ := Lib.hid hz; clear hz
  have h0 := hT.lt
  have HT := Lib.hid hT; clear hT
  have HLEN := Lib.hid hlen; clear hlen
  obtain ⟨V, hV⟩ : ∃ V, V = wrV ss := ⟨_, rfl⟩
  rw [← hV]
  have HV := Lib.hid hV; clear hV
  go_enter Tryd.func10, Tryd.ntmps10
  go_wp2_with fail
  go_loop [4, 12] (fun n i => ∃ k q : Nat, k ≤ len ∧ i = .int .i64 k ∧ n = .int .i64 q ∧ q ≤ 21846 * k ∧ Hid (q = cellsS (ss.take k)) ∧ Hid (∀ i, i < k → (ss.getD i ByteArray.empty).size ≤ 524288)) (fun _ i => len - (intOf i).toNat)
  case atStart => exact ⟨0, 0, Nat.zero_le _, rfl, rfl, Nat.zero_le _, rfl, Lib.hid (fun i hi => by omega)⟩
  case round =>
    obtain ⟨k, q, hk, rfl, rfl, hq, HQ, HS⟩ := hrel
    by_cases hlt : k < len
    · obtain ⟨ha, hb, hc⟩ := HC.out k hlt
      have hk' : k < ss.length := by have := HLEN.out; omega
      have hsz : (ss.getD k ByteArray.empty).size ≤ 9223372036854775807 := by
        rw [getD_at hk']; exact HZ.out _ (List.getElem_mem hk')
      subst ha
      by_cases hlong : 524288 < (ss.getD k ByteArray.empty).size
      · have HE : Hid (V = .tuple #[.string ⟨#[]⟩, .int .i64 3]) := by
          rw [HV.out]
          exact Lib.hid (wrV_long (List.getElem_mem hk') (by rw [← getD_at hk']; exact hlong))
        clear hk'
        generalize ss.getD k ByteArray.empty = s at *
        go_wp2_with fail
        go_ret2
        rw [HE.out]
        exact ⟨rfl, Below.refl _ _⟩
      · have hsm : (ss.getD k ByteArray.empty).size ≤ 524288 := by omega
        have HU : Hid (cellsS (ss.take (k + 1)) = q + Cr.cells (ss.getD k ByteArray.empty)) := by rw [cellsS_snoc hk', HQ.out]; exact Lib.hid rfl
        have HS2 : Hid (∀ i, i < k + 1 → (ss.getD i ByteArray.empty).size ≤ 524288) := Lib.hid (fun i hi => by
          by_cases e : i = k
          · rw [e]; exact hsm
          · exact HS.out i (by omega))
        clear hk' hlong HS hsz
        generalize ss.getD k ByteArray.empty = s at *
        go_wp2_with fail
        refine (cellsOf_any s _ (by omega)).mono ?_
        rintro e w' ⟨rfl, rfl⟩
        have hcs := cells_small hsm
        generalize Cr.cells s = c at *
        go_wp2_with fail
        go_round
        case rel => exact ⟨k + 1, q + c, by omega, by go_num, by go_num, by omega, HU.symm, HS2⟩
        case measure => simp [intOf]; omega
    · obtain rfl : len = k := by omega
      have hall : ∀ s ∈ ss, s.size ≤ 524288 := by
        intro s hs
        obtain ⟨i, hi, rfl⟩ := List.mem_iff_getElem.1 hs
        rw [← getD_at hi]
        exact HS.out i (by have := HLEN.out; omega)
      have HE : Hid (V = .tuple #[.string ⟨(Cr.frames ss).toArray⟩, .int .i64 0]) := by rw [HV.out]; exact Lib.hid (wrV_ok hall)
      have HALL := Lib.hid hall; clear hall HV HS
      obtain ⟨M, hmk, hown⟩ := make_owns w (q * 32) (by omega) w.heap.size (Nat.le_refl _)
      have HO := Lib.hid hown; clear hown
      have hq32 : ((q : Int) * 32) = ((q * 32 : Nat) : Int) := by omega
      rw [← hq32] at hmk
      have HQ2 := Lib.hid hq
      have hq2 : (q : Int) ≤ 21846000000 := by omega
      clear hq hq32 HQ
      have HB1 : Hid (Below w.heap.size w (w.alloc (.cells M 5))) := (Below.refl _ _).alloc (Nat.le_refl _) _
      go_wp2_with fail
      clear hmk
      generalize w.alloc (.cells M 5) = w1 at *
      generalize hv0 : Value.slice (some ⟨w.heap.size, 0, none⟩) 0 (q * 32) = v0 at *
      clear hv0
      go_loopw [7, 29] (fun u i wr => ∃ k : Nat, k ≤ len ∧ i = .int .i64 k ∧ Hid (Owns wr w.heap.size u (Cr.frames (ss.take k))) ∧ Hid (Below w.heap.size w wr)) (fun _ i _ => len - (intOf i).toNat)
      case atStart => exact ⟨0, Nat.zero_le _, rfl, by rw [List.take_zero]; exact HO, HB1⟩
      case round =>
        obtain ⟨k, hk, rfl, HO2, HB2⟩ := hrel
        clear HO HB1
        by_cases hlt : k < len
        · obtain ⟨ha, hb, hc⟩ := HC.out k hlt
          have hk' : k < ss.length := by have := HLEN.out; omega
          have hsz : (ss.getD k ByteArray.empty).size ≤ 524288 := by
            rw [getD_at hk']; exact HALL.out _ (List.getElem_mem hk')
          have hc2 := (HB2.out.cell (p := ⟨b, off + k, none⟩) hb).trans hc
          have HN : Hid (Cr.frames (ss.take (k + 1)) = Cr.frames (ss.take k) ++ Cr.frame (ss.getD k ByteArray.empty)) := frames_snoc hk'
          have HFL : Hid ((Cr.frames (ss.take k)).length ≤ 1099511627776) := by
            rw [frames_length]
            have h1 := cellsS_le (fun s hs => HALL.out s (List.mem_of_mem_take (i := k) hs))
            rw [List.length_take] at h1
            exact Lib.hid (by omega)
          have HBS : Hid (w.heap.size ≤ wr.heap.size) := HB2.out.size
          subst ha
          clear hc hk'
          generalize ss.getD k ByteArray.empty = s at *
          generalize Cr.frames (ss.take k) = F at *
          go_wp2_with fail
          refine (appendFrame_any w.heap.size _ F s _ HO2.out h0 HBS.out (HT.out.belowB h0 HB2.out) HFL.out hsz).mono ?_
          rintro e w2 ⟨v2, rfl, ho2, hb2⟩
          have HO3 := Lib.hid ho2; have HB3 : Hid (Below w.heap.size w w2) := Lib.hid (HB2.out.trans hb2)
          clear ho2 hb2 HO2 HB2
          go_wp2_with fail
          go_roundw
          case rel => exact ⟨k + 1, by omega, by go_num, by rw [HN.out]; exact HO3, HB3⟩
          case measure => simp [intOf]; omega
        · obtain rfl : len = k := by omega
          have hcv := HO2.out.convert
          rw [List.take_of_length_le (by have := HLEN.out; omega)] at hcv
          go_wp2_with fail
          go_ret2
          rw [HE.out]
          exact ⟨rfl, HB2.out⟩

end Go.Proofs.YtalmkgjinabceaaDoor
