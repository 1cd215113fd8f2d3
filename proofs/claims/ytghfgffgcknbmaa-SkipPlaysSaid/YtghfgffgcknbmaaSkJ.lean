/- The walk of made. -/
import Derived.Test.YtghfgffgcknbmaaSkI
import Derived.Deep.RegionHeld3
namespace Go.Proofs.Ytghfgffgcknbmaa.Sk
open Go Go.RowKit
set_option linter.unusedVariables false

/-- A list behind acts, whose heights are what a function says. -/
def item (f : Ac → Int) (x : Ac) : It ByteArray := ⟨x.key.data.toList, x.val, clampH (f x)⟩
def stepS (f : Ac → Int) (s : List (It ByteArray)) (x : Ac) : List (It ByteArray) := if x.op = 0 then put (item f x) s else s
def stepR (f : Ac → Int) (s : List (It ByteArray)) (x : Ac) : List (It ByteArray) := if x.op = 0 then rput (item f x) s else s
def mkS (f : Ac → Int) (l : List Ac) : List (It ByteArray) := l.foldl (stepS f) []
def mkR (f : Ac → Int) (l : List Ac) : List (It ByteArray) := l.foldl (stepR f) []
theorem mkS_take {f : Ac → Int} {l : List Ac} {k : Nat} {x : Ac} (h : l[k]? = some x) : mkS f (l.take (k + 1)) = stepS f (mkS f (l.take k)) x := by
  unfold mkS
  rw [List.take_add_one, h, List.foldl_append]
  rfl
theorem mkR_take {f : Ac → Int} {l : List Ac} {k : Nat} {x : Ac} (h : l[k]? = some x) : mkR f (l.take (k + 1)) = stepR f (mkR f (l.take k)) x := by
  unfold mkR
  rw [List.take_add_one, h, List.foldl_append]
  rfl
theorem kin_mk (f : Ac → Int) : ∀ (l : List Ac) (s r : List (It ByteArray)), Kin s r → Kin (l.foldl (stepS f) s) (l.foldl (stepR f) r) ∧ (l.foldl (stepR f) r).length ≤ r.length + l.length
  | [], s, r, h => ⟨h, by simp⟩
  | x :: l, s, r, h => by
    have h3 : Kin (stepS f s x) (stepR f r x) ∧ (stepR f r x).length ≤ r.length + 1 := by
      unfold stepS stepR
      split
      · exact ⟨h.put _, length_rput_le h.one⟩
      · exact ⟨h, by omega⟩
    obtain ⟨h4, h5⟩ := kin_mk f l _ _ h3.1
    refine ⟨h4, ?_⟩
    have h6 := h3.2
    simp only [List.foldl_cons, List.length_cons]
    omega
theorem mkR_len (f : Ac → Int) (l : List Ac) : (mkR f l).length ≤ l.length := by
  have := (kin_mk f l [] [] Kin.nil).2
  unfold mkR
  simpa using this
/-- How high towers are made. -/
def fh (more : Int) (x : Ac) : Int := IntKind.i64.wrap (IntKind.i64.wrap (1 + bits BinOp.and IntKind.i64 x.h 15) + bits BinOp.and IntKind.i64 more 15)

def MadeSaid (more : Int) (l : List Ac) (w : World) (e : Ending) (w' : World) : Prop := ∃ L, e = .returned (.pointer (some ⟨L.b, 0, none⟩)) ∧ Mine w.heap.size w' L (mkS (fh more) l) (mkR (fh more) l) ∧ Below w.heap.size w w'
set_option maxHeartbeats 4000000 in
set_option maxRecDepth 100000 in
theorem made_any {ao : Option Addr} {n cap : Nat} {l : List Ac} (w : World) (h : SeesA w (.slice ao n cap) l) (hl : Small l) (more : Int) : Calls Try.prog 27 #[.slice ao n cap, .int .i64 more] w (MadeSaid more l w) := by
  have HL : Hid (l.length = n) := Lib.hid h.len
  have hn : (n : Int) ≤ 120 := by have := hl.1; have := HL.out; omega
  have HNEW := Lib.hid (new_any w)
  have HS := Lib.hid h; clear h
  have HSM := Lib.hid hl; clear hl
  go_enter Try.func27, Try.ntmps27
  go_wp2_with fail
  refine HNEW.out.mono ?_
  rintro e w1 ⟨rfl, hb1, hl1⟩
  have M1 : Hid (Mine w.heap.size w1 ⟨w.heap.size, .slice none 0 0, fun _ => 0⟩ [] []) := Lib.hid ⟨hl1, fun b hb => by
    rcases hb with rfl | hb | ⟨y, hy, _⟩
    · exact Nat.le_refl _
    · simp [Value.ownBlock] at hb
    · cases hy⟩
  have B1 := Lib.hid hb1
  clear hb1 hl1
  go_wp2_with fail
  go_loopw [6] (fun i wr => ∃ (k : Nat) (L : Lay), k ≤ n ∧ i = .int .i64 (k : Int) ∧ L.b = w.heap.size ∧ Hid (Mine w.heap.size wr L (mkS (fh more) (l.take k)) (mkR (fh more) (l.take k))) ∧ Hid (Below w.heap.size w wr)) (fun i _ => n - (intOf i).toNat)
  case atStart => exact ⟨0, _, Nat.zero_le _, rfl, rfl, M1, B1⟩
  case round =>
    obtain ⟨k, L, hk, rfl, hLb, HM, HB⟩ := hrel
    by_cases hkn : k < n
    · obtain ⟨x, hx⟩ : ∃ x, l[k]? = some x := ⟨l[k]'(by rw [HL.out]; exact hkn), List.getElem?_eq_getElem _⟩
      obtain ⟨b, off, rfl, hb, hx0, c0', c1', c2', c3'⟩ := HS.out.get hx
      have c0 := (HB.out.cell (p := ⟨b, off + k * 4, none⟩) hb).trans c0'
      have c1 := (HB.out.cell (p := ⟨b, off + k * 4 + 1, none⟩) hb).trans c1'
      have c2 := (HB.out.cell (p := ⟨b, off + k * 4 + 2, none⟩) hb).trans c2'
      have c3 := (HB.out.cell (p := ⟨b, off + k * 4 + 3, none⟩) hb).trans c3'
      have hbr : b < wr.heap.size := Nat.lt_of_lt_of_le hb HB.out.size
      have hki : (k : Int) < n := by omega
      have HTS := Lib.hid (mkS_take (f := fh more) hx)
      have HTR := Lib.hid (mkR_take (f := fh more) hx)
      by_cases ho : x.op = 0
      · rw [ho] at c0
        have hxs := HSM.out.2 x (List.mem_of_getElem? hx)
        have hrl := mkR_len (fh more) (l.take k)
        have hrl2 : (l.take k).length ≤ k := by rw [List.length_take]; omega
        have HSET := set_mine (w := wr.drew) ⟨HM.out.lies.drew, HM.out.from_⟩ HB.out.size x.key x.val (fh more x) (by omega) (by omega)
        rw [hLb] at HSET
        have HSE := Lib.hid HSET
        have HTS2 : Hid (mkS (fh more) (l.take (k + 1)) = put (item (fh more) x) (mkS (fh more) (l.take k))) := Lib.hid (by rw [HTS.out]; unfold stepS; rw [if_pos ho])
        have HTR2 : Hid (mkR (fh more) (l.take (k + 1)) = rput (item (fh more) x) (mkR (fh more) (l.take k))) := Lib.hid (by rw [HTR.out]; unfold stepR; rw [if_pos ho])
        unfold fh at HSE
        clear HSET hxs hrl hrl2 c0' c1' c2' c3' HTS HTR hx
        go_wp2_with fail
        go_region_held3 (fun w' => w'.cell? ⟨b, off + k * 4 + 1, none⟩ = some (.string x.key) ∧ w'.cell? ⟨b, off + k * 4 + 2, none⟩ = some (.string x.val) ∧ w'.cell? ⟨b, off + k * 4 + 3, none⟩ = some (.int .i64 x.h))
          (first
            | (go_keep; done)
            | (go_split_ands
               refine ⟨?_, ?_, ?_⟩
               · exact (hbb.cell (p := ⟨b, off + k * 4 + 1, none⟩) hb).trans c1
               · exact (hbb.cell (p := ⟨b, off + k * 4 + 2, none⟩) hb).trans c2
               · exact (hbb.cell (p := ⟨b, off + k * 4 + 3, none⟩) hb).trans c3))
          (first
            | (go_at_call 13; refine HSE.out.mono ?_; rintro e w3 ⟨rfl, L3, hL3, hm3, ht3⟩
               have hbb : Below w.heap.size wr.drew w3 := ht3.to_below HB.out.size HM.out.from_
               have HM3 := Lib.hid hm3))
        go_wp2_with fail
        go_roundw
        case rel => exact ⟨k + 1, L3, by omega, by go_num, hL3.trans hLb, Lib.hid (by rw [HTS2.out, HTR2.out]; exact HM3.out), Lib.hid (HB.out.trans (Below.trans (b := wr.drew) ⟨rfl, rfl, rfl, Nat.le_refl _, fun _ _ => rfl⟩ hbb))⟩
        case measure => simp [intOf]; omega
      · have ho2 : ¬ (x.op : Int) = 0 := by omega
        have HTS2 : Hid (mkS (fh more) (l.take (k + 1)) = mkS (fh more) (l.take k)) := Lib.hid (by rw [HTS.out]; unfold stepS; rw [if_neg ho])
        have HTR2 : Hid (mkR (fh more) (l.take (k + 1)) = mkR (fh more) (l.take k)) := Lib.hid (by rw [HTR.out]; unfold stepR; rw [if_neg ho])
        clear c1 c2 c3 c0' c1' c2' c3' HTS HTR hx
        go_wp2_with fail
        go_roundw
        case rel => exact ⟨k + 1, L, by omega, by go_num, hLb, Lib.hid (by rw [HTS2.out, HTR2.out]; exact HM.out), HB⟩
        case measure => simp [intOf]; omega
    · obtain rfl : k = n := by omega
      have e1 : l.take k = l := List.take_of_length_le (by rw [HL.out]; exact Nat.le_refl _)
      rw [e1] at HM
      go_wp2_with fail
      go_ret
      exact ⟨L, by rw [hLb]; rfl, HM.out, HB.out⟩

end Go.Proofs.Ytghfgffgcknbmaa.Sk
