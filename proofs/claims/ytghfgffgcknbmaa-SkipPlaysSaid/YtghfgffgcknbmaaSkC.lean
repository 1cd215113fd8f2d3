/- The walks of List.find, tell, Get, Seek, After, Len, New over a list that lies in memory. -/
import Derived.Test.YtghfgffgcknbmaaSkB
import Derived.Test.YtghfgffgcknbmaaClone
import Derived.Deep.RegionHeld3
namespace Go.Proofs.Ytghfgffgcknbmaa.Sk
open Go Go.RowKit
set_option linter.unusedVariables false

section
variable {α : Type}
/-- The keys below one, and the others. -/
theorem cutAt : ∀ {s : List (It α)}, Up s → ∀ K : Str, ∃ A B, s = A ++ B ∧ (∀ y ∈ A, bytesBefore y.key K = true) ∧ (∀ y ∈ B, bytesBefore y.key K = false) ∧ seek K s = B.head?
  | [], _, K => ⟨[], [], rfl, by simp, by simp, rfl⟩
  | x :: s, hu, K => by
    cases hx : bytesBefore x.key K with
    | true =>
      obtain ⟨A, B, rfl, hA, hB, hs⟩ := cutAt hu.tail K
      refine ⟨x :: A, B, rfl, fun y hy => ?_, hB, ?_⟩
      · rcases List.mem_cons.1 hy with rfl | hy
        · exact hx
        · exact hA y hy
      · unfold seek at hs ⊢
        rw [List.find?_cons_of_neg (by simp [hx])]
        exact hs
    | false =>
      refine ⟨[], x :: s, rfl, by simp, fun y hy => ?_, ?_⟩
      · rcases List.mem_cons.1 hy with rfl | hy
        · exact hx
        · cases e : bytesBefore y.key K with
          | false => rfl
          | true => rw [lt_trans (hu.head hy) e] at hx; cases hx
      · unfold seek
        rw [List.find?_cons_of_pos (by simp [hx])]
        rfl
theorem after_same {A B : List (It α)} {y : It α} (hu : Up (A ++ y :: B)) : after y.key (A ++ y :: B) = B.head? := by
  have h := after_at hu (k := A.length) (x := y) (by simp)
  rw [h]
  cases B with
  | nil => simp
  | cons z B => simp
theorem after_next {A B : List (It α)} {y : It α} {K : Str} (hA : ∀ z ∈ A, bytesBefore z.key K = true) (hy : bytesBefore y.key K = false) (hne : y.key ≠ K) : after K (A ++ y :: B) = some y := by
  unfold after
  rw [List.find?_append, List.find?_eq_none.2 (fun z hz => by rw [lt_asym (hA z hz)]; decide), List.find?_cons_of_pos (p := fun z : It α => bytesBefore K z.key) ((lt_total hne).resolve_left (by rw [hy]; decide))]
  rfl
theorem after_none {A : List (It α)} {K : Str} (hA : ∀ z ∈ A, bytesBefore z.key K = true) : after K A = none := by
  unfold after
  exact List.find?_eq_none.2 (fun z hz => by rw [lt_asym (hA z hz)]; decide)
theorem find_seek {s : List (It α)} (hu : Up s) {K : Str} : find K s = match seek K s with
    | some y => if y.key = K then some y else none
    | none => none := by
  obtain ⟨A, B, rfl, hA, hB, hs⟩ := cutAt hu K
  rw [hs]
  have h1 : find K A = none := find_none.2 fun y hy => lt_ne (hA y hy)
  have e : find K (A ++ B) = find K B := by
    unfold find at h1 ⊢
    rw [List.find?_append, h1]; rfl
  rw [e]
  cases B with
  | nil => rfl
  | cons y B =>
    show _ = if y.key = K then some y else none
    by_cases hk : y.key = K
    · rw [if_pos hk]; exact find_cons_eq hk
    · rw [if_neg hk]
      refine find_none.2 fun z hz e2 => ?_
      rcases List.mem_cons.1 hz with rfl | hz
      · exact hk e2
      · have h2 : Up (y :: B) := by
          have : Up (A ++ y :: B) := hu
          exact List.Pairwise.sublist (List.sublist_append_right A _) this
        have h3 := h2.head hz
        rw [e2, hB y (by simp)] at h3
        cases h3
theorem index_array (v : Value) (vs : Array Value) (h : vs[0]? = some v) (hn : vs.size = 12) (w : World) : (Instr.index 28 (.agg vs) (.int .i64 0)).run Try.prog w = .ok v w := by
  have h0 : 0 < vs.size := by omega
  simp [Instr.index, run_underlying Try.underlying28, asIntOf, go_sem]
  rw [h]
  rfl
/-- A place. -/
def plI (r : List (It α)) : Option (It α) → Nat
  | none => 0
  | some y => plc (keys r) y.key
theorem plI_shape (r : List (It α)) (B : List (It α)) (h : ∀ y ∈ B, 1 ≤ y.h) : nxt (keys r) 0 (shape B) = plI r B.head? := by
  cases B with
  | nil => rfl
  | cons y B => exact nxt_here (h y (by simp))
end

set_option maxHeartbeats 2000000 in
theorem find_any {w : World} {L : Lay} {s r : List (It ByteArray)} (h : ListS w L s r) (K : ByteArray) :
    Calls Try.prog 43 #[.pointer (some ⟨L.b, 0, none⟩), .string K] w fun e w' => e = .returned (.int .i64 (plI r (seek K.data.toList s) : Int)) ∧ Below w.heap.size w w' := by
  obtain ⟨A, B, hs, hA, hB, hsk⟩ := cutAt h.kin.up K.data.toList
  have hsh : shape s = shape A ++ shape B := by rw [hs]; simp [shape]
  have hlast : lastp (keys r) (shape s) K.data.toList 0 = plo (keys r) (shape A).getLast? := by
    rw [hsh]
    refine lastp_stop (fun y hy => ?_) (fun y hy => ?_) (fun z hz _ => ?_)
    · obtain ⟨z, hz, rfl⟩ := shape_mem hy
      exact hA z hz
    · obtain ⟨z, hz, rfl⟩ := shape_mem (List.mem_of_getLast? hy)
      exact (h.hgt z (by rw [hs]; exact List.mem_append_left _ hz)).1
    · obtain ⟨y, hy, rfl⟩ := shape_mem hz
      exact hB y hy
  have HN : Hid (nxt (keys r) 0 (shape B) = plI r (seek K.data.toList s)) := Lib.hid (by rw [hsk]; exact plI_shape r B (fun y hy => (h.hgt y (by rw [hs]; exact List.mem_append_right _ hy)).1))
  have HP := Lib.hid (path_any h K)
  have HL := Lib.hid (fun W (hb : Below w.heap.size w W) => links_any (h.below hb) hsh)
  have HT : Hid (∀ y, (shape A).getLast? = some y → 0 < y.2) := Lib.hid (fun y hy => by
    obtain ⟨z, hz, rfl⟩ := shape_mem (List.mem_of_getLast? hy)
    exact (h.hgt z (by rw [hs]; exact List.mem_append_left _ hz)).1)
  clear h hsk hA hB hs hsh
  generalize plI r (seek K.data.toList s) = pl at *
  generalize plo (keys r) (shape A).getLast? = pa at *
  have hv0 : (prow (keys r) (shape s) K.data.toList 0).toArray[0]? = some (.int .i64 (pa : Int)) := by rw [← hlast]; rfl
  have hv1 : (prow (keys r) (shape s) K.data.toList 0).toArray.size = 12 := rfl
  generalize (prow (keys r) (shape s) K.data.toList 0).toArray = vs at *
  have hix := index_array (.int .i64 (pa : Int)) vs hv0 hv1
  clear hlast hv0 hv1
  go_enter Try.func43, Try.ntmps43
  go_wp2_with fail
  refine HP.out.mono ?_
  rintro e w1 ⟨rfl, hb⟩
  obtain ⟨g, off, n, hc, _, hcell⟩ := HL.out w1 hb
  obtain ⟨h1, h2⟩ := hcell 0 HT.out (by omega)
  rw [HN.out, Nat.add_zero] at h2
  have hn : (0 : Int) < n := by omega
  have HC := Lib.hid hc; have HB := Lib.hid hb
  clear hc hcell hb HP HL
  go_wp2_with fail
  refine HC.out.mono ?_
  rintro e w2 ⟨rfl, rfl⟩
  go_wp2_with fail
  go_ret
  exact ⟨rfl, HB.out⟩

def tellV : Option (It ByteArray) → Value
  | none => .tuple #[.string ByteArray.empty, .string ByteArray.empty, .bool false]
  | some y => .tuple #[.string (txt y.key), .string y.val, .bool true]
theorem tellNone_any (w : World) (l : Value) :
    Calls Try.prog 44 #[l, .int .i64 0] w fun e w' => e = .returned (tellV none) ∧ w' = w := by
  go_enter Try.func44, Try.ntmps44
  go_wp2_with fail
  go_ret3
  exact ⟨rfl, rfl⟩
theorem txt_size (k : Str) : (txt k).size = k.length := by unfold txt ByteArray.size; simp
set_option maxHeartbeats 2000000 in
theorem tellAt_any {w : World} {L : Lay} {s r : List (It ByteArray)} (h : ListS w L s r) {y : It ByteArray} (hy : y ∈ s) :
    Calls Try.prog 44 #[.pointer (some ⟨L.b, 0, none⟩), .int .i64 (plc (keys r) y.key : Int)] w fun e w' => e = .returned (tellV (some y)) ∧ Below w.heap.size w w' := by
  obtain ⟨g, i, hc, h0, h1, h2, _, hv, _⟩ := nodeAt_any h hy
  have hg : g < w.heap.size := ownsRow_lt h.row hv
  have hp := plc_pos (keys r) y.key
  have hl := h.plc_le hy
  have hne : ¬ ((plc (keys r) y.key : Nat) : Int) = 0 := by omega
  have HC := Lib.hid hc; clear hc
  have hks := h.small y hy
  have HCL := Lib.hid (fun W => clone_any (txt y.key) W (by rw [txt_size]; omega))
  rw [show tellV (some y) = .tuple #[.string (txt y.key), .string y.val, .bool true] from rfl]
  generalize plc (keys r) y.key = p at *
  generalize txt y.key = S at *
  generalize y.val = V at *
  clear h2 h hy hks hv
  go_enter Try.func44, Try.ntmps44
  go_wp2_with fail
  refine HC.out.mono ?_
  rintro e w1 ⟨rfl, rfl⟩
  go_wp2_with fail
  go_region_held3 (fun w' => w'.cell? ⟨g, i * 3, none⟩ = some (.string S) ∧ w'.cell? ⟨g, i * 3 + 1, none⟩ = some (.string V))
    (first
      | go_keep
      | (go_split_ands
         exact ⟨(hb3.cell (p := ⟨g, i * 3, none⟩) hg).trans h0, (hb3.cell (p := ⟨g, i * 3 + 1, none⟩) hg).trans h1⟩))
    (first
      | (go_at_call 41; refine (HCL.out _).mono ?_; rintro e w3 ⟨rfl, hb3⟩))
  go_wp2_with fail
  go_ret3
  exact ⟨rfl, Below.trans (b := w1.drew) ⟨rfl, rfl, rfl, Nat.le_refl _, fun _ _ => rfl⟩ hb3⟩
theorem seek_mem {α : Type} {s : List (It α)} {K : Str} {y : It α} (h : seek K s = some y) : y ∈ s := List.mem_of_find?_eq_some h
theorem after_mem {α : Type} {s : List (It α)} {K : Str} {y : It α} (h : after K s = some y) : y ∈ s := List.mem_of_find?_eq_some h
theorem tell_any {w : World} {L : Lay} {s r : List (It ByteArray)} (h : ListS w L s r) (o : Option (It ByteArray)) (ho : ∀ y, o = some y → y ∈ s) :
    Calls Try.prog 44 #[.pointer (some ⟨L.b, 0, none⟩), .int .i64 (plI r o : Int)] w fun e w' => e = .returned (tellV o) ∧ Below w.heap.size w w' := by
  cases o with
  | none =>
    refine (tellNone_any w _).mono ?_
    rintro e w1 ⟨rfl, rfl⟩
    exact ⟨rfl, Below.refl _ _⟩
  | some y => exact tellAt_any h (ho y rfl)
def isB (o : Option (It ByteArray)) (K : Str) : Bool := match o with
  | some y => y.key == K
  | none => false
theorem isAtO_any {w : World} {L : Lay} {s r : List (It ByteArray)} (h : ListS w L s r) (o : Option (It ByteArray)) (ho : ∀ y, o = some y → y ∈ s) (K : ByteArray) :
    Calls Try.prog 35 #[.pointer (some ⟨L.b, 0, none⟩), .int .i64 (plI r o : Int), .string K] w fun e w' => e = .returned (.bool (isB o K.data.toList)) ∧ w' = w := by
  cases o with
  | none => exact isNone_any w _ K
  | some y => exact isAt_any h (ho y rfl) K

set_option maxHeartbeats 2000000 in
theorem seek_any {w : World} {L : Lay} {s r : List (It ByteArray)} (h : ListS w L s r) (K : ByteArray) :
    Calls Try.prog 28 #[.pointer (some ⟨L.b, 0, none⟩), .string K] w fun e w' => e = .returned (tellV (seek K.data.toList s)) ∧ Below w.heap.size w w' := by
  have HF := Lib.hid (find_any h K)
  have HT := Lib.hid (fun W (hb : Below w.heap.size w W) => tell_any (h.below hb) (seek K.data.toList s) (fun y hy => seek_mem hy))
  have hT : ∃ a b c, tellV (seek K.data.toList s) = .tuple #[a, b, c] := by
    cases seek K.data.toList s with
    | none => exact ⟨_, _, _, rfl⟩
    | some y => exact ⟨_, _, _, rfl⟩
  obtain ⟨a, b, c, hT⟩ := hT
  rw [hT] at HT ⊢
  generalize plI r (seek K.data.toList s) = p at *
  clear hT h
  go_enter Try.func28, Try.ntmps28
  go_wp2_with fail
  refine HF.out.mono ?_
  rintro e w1 ⟨rfl, hb⟩
  go_wp2_with fail
  refine (HT.out w1 hb).mono ?_
  rintro e w2 ⟨rfl, hb2⟩
  have HB := Lib.hid (Below.next hb hb2)
  clear hb hb2 HT HF
  go_wp2_with fail
  go_ret3
  exact ⟨rfl, HB.out⟩

def getV : Option (It ByteArray) → Value
  | none => .tuple #[.string ByteArray.empty, .bool false]
  | some y => .tuple #[.string y.val, .bool true]
set_option maxHeartbeats 2000000 in
theorem get_any {w : World} {L : Lay} {s r : List (It ByteArray)} (h : ListS w L s r) (K : ByteArray) :
    Calls Try.prog 30 #[.pointer (some ⟨L.b, 0, none⟩), .string K] w fun e w' => e = .returned (getV (find K.data.toList s)) ∧ Below w.heap.size w w' := by
  have HF := Lib.hid (find_any h K)
  have HI := Lib.hid (fun W (hb : Below w.heap.size w W) => isAtO_any (h.below hb) (seek K.data.toList s) (fun y hy => seek_mem hy) K)
  rw [find_seek h.kin.up]
  cases hs : seek K.data.toList s with
  | none =>
    rw [hs] at HF HI
    rw [show isB none K.data.toList = false from rfl, show plI r none = 0 from rfl] at HI
    rw [show plI r none = 0 from rfl] at HF
    clear h hs
    go_enter Try.func30, Try.ntmps30
    go_wp2_with fail
    refine HF.out.mono ?_
    rintro e w1 ⟨rfl, hb⟩
    have HB := Lib.hid hb
    clear hb
    go_wp2_with fail
    refine (HI.out _ HB.out).mono ?_
    rintro e w2 ⟨rfl, rfl⟩
    go_wp2_with fail
    go_ret2
    exact ⟨rfl, HB.out⟩
  | some y =>
    have hy := seek_mem hs
    rw [hs] at HF HI
    have HH := Lib.hid h
    dsimp only
    clear h hs
    by_cases hk : y.key = K.data.toList
    · rw [if_pos hk]
      rw [show isB (some y) K.data.toList = true by simpa [isB] using hk] at HI
      rw [show getV (some y) = .tuple #[.string y.val, .bool true] from rfl]
      have HN := Lib.hid (fun W (hb : Below w.heap.size w W) => nodeAt_any (HH.out.below hb) hy)
      rw [show plI r (some y) = plc (keys r) y.key from rfl] at HF HI
      generalize plc (keys r) y.key = p at *
      clear hk
      go_enter Try.func30, Try.ntmps30
      go_wp2_with fail
      refine HF.out.mono ?_
      rintro e w1 ⟨rfl, hb⟩
      have HB := Lib.hid hb
      clear hb
      go_wp2_with fail
      refine (HI.out _ HB.out).mono ?_
      rintro e w2 ⟨rfl, rfl⟩
      go_wp2_with fail
      obtain ⟨g, i, hc, _, h1, _⟩ := HN.out _ HB.out
      have HC := Lib.hid hc
      clear hc
      refine HC.out.mono ?_
      rintro e w3 ⟨rfl, rfl⟩
      go_wp2_with fail
      go_ret2
      exact ⟨rfl, HB.out⟩
    · rw [if_neg hk]
      rw [show isB (some y) K.data.toList = false by simpa [isB] using hk] at HI
      generalize plI r (some y) = p at *
      clear hk
      go_enter Try.func30, Try.ntmps30
      go_wp2_with fail
      refine HF.out.mono ?_
      rintro e w1 ⟨rfl, hb⟩
      have HB := Lib.hid hb
      clear hb
      go_wp2_with fail
      refine (HI.out _ HB.out).mono ?_
      rintro e w2 ⟨rfl, rfl⟩
      go_wp2_with fail
      go_ret2
      exact ⟨rfl, HB.out⟩

set_option maxHeartbeats 2000000 in
theorem after_any {w : World} {L : Lay} {s r : List (It ByteArray)} (h : ListS w L s r) (K : ByteArray) :
    Calls Try.prog 29 #[.pointer (some ⟨L.b, 0, none⟩), .string K] w fun e w' => e = .returned (tellV (after K.data.toList s)) ∧ Below w.heap.size w w' := by
  have HF := Lib.hid (find_any h K)
  have HI := Lib.hid (fun W (hb : Below w.heap.size w W) => isAtO_any (h.below hb) (seek K.data.toList s) (fun y hy => seek_mem hy) K)
  have HT := Lib.hid (fun W (hb : Below w.heap.size w W) => tell_any (h.below hb) (after K.data.toList s) (fun y hy => after_mem hy))
  have hT : ∃ a b c, tellV (after K.data.toList s) = .tuple #[a, b, c] := by
    cases after K.data.toList s with
    | none => exact ⟨_, _, _, rfl⟩
    | some y => exact ⟨_, _, _, rfl⟩
  obtain ⟨a, b, c, hT⟩ := hT
  obtain ⟨A, B, hs, hA, hB, hsk⟩ := cutAt h.kin.up K.data.toList
  by_cases hk : ∃ y, seek K.data.toList s = some y ∧ y.key = K.data.toList
  · obtain ⟨y, hy, hk⟩ := hk
    rw [hy] at HF HI hsk
    cases B with
    | nil => cases hsk
    | cons y' B =>
      obtain rfl : y = y' := Option.some.inj hsk
      have hym := seek_mem hy
      have HL := Lib.hid (fun W (hb : Below w.heap.size w W) => linksAt_any (h.below hb) hym)
      have hsh : shape s = shape A ++ (y.key, y.h) :: shape B := by rw [hs]; simp [shape]
      have hh := (h.hgt y hym).1
      have HLK : Hid (∀ W, Below w.heap.size w W → W.cell? ⟨L.loc y.key, 0, none⟩ = some (.int .i64 (plI r (after K.data.toList s) : Int))) := Lib.hid (fun W hb => by
        have h1 := (h.below hb).link hsh (j := 0) (by omega)
        rw [plI_shape r B (fun z hz => (h.hgt z (by rw [hs]; simp [hz])).1)] at h1
        have h2 := h.kin.up
        rw [hs] at h2
        have h3 : after y.key s = B.head? := by rw [hs]; exact after_same h2
        rw [h1, ← hk, h3])
      rw [show isB (some y) K.data.toList = true by simpa [isB] using hk, show plI r (some y) = plc (keys r) y.key from rfl] at HI
      rw [show plI r (some y) = plc (keys r) y.key from rfl] at HF
      rw [hT] at HT ⊢
      generalize plI r (after K.data.toList s) = q at *
      generalize plc (keys r) y.key = p at *
      clear hs hsk hsh hk hT h hA hB hy hym
      go_enter Try.func29, Try.ntmps29
      go_wp2_with fail
      refine HF.out.mono ?_
      rintro e w1 ⟨rfl, hb⟩
      have HB := Lib.hid hb
      clear hb
      go_wp2_with fail
      refine (HI.out _ HB.out).mono ?_
      rintro e w2 ⟨rfl, rfl⟩
      go_wp2_with fail
      refine (HL.out _ HB.out).mono ?_
      rintro e w3 ⟨rfl, rfl⟩
      have hlk := HLK.out _ HB.out
      have hh2 : (0 : Int) < y.h := by omega
      go_wp2_with fail
      refine (HT.out _ HB.out).mono ?_
      rintro e w2 ⟨rfl, hb2⟩
      have HB2 := Lib.hid (Below.next HB.out hb2)
      clear hb2 hlk
      go_wp2_with fail
      go_ret3
      exact ⟨rfl, HB2.out⟩
  · have hI : isB (seek K.data.toList s) K.data.toList = false := by
      cases e : seek K.data.toList s with
      | none => rfl
      | some y =>
        unfold isB
        exact beq_false_of_ne fun e2 => hk ⟨y, e, e2⟩
    have hsa : after K.data.toList s = seek K.data.toList s := by
      rw [hsk]
      rw [hs]
      cases B with
      | nil => rw [List.append_nil]; exact after_none hA
      | cons y B => exact after_next hA (hB y (by simp)) (fun e => hk ⟨y, hsk, e⟩)
    rw [hI] at HI
    rw [hT] at HT ⊢
    rw [hsa] at HT
    generalize plI r (seek K.data.toList s) = q at *
    clear hs hsk hk hT h hA hB hI hsa
    go_enter Try.func29, Try.ntmps29
    go_wp2_with fail
    refine HF.out.mono ?_
    rintro e w1 ⟨rfl, hb⟩
    have HB := Lib.hid hb
    clear hb
    go_wp2_with fail
    refine (HI.out _ HB.out).mono ?_
    rintro e w2 ⟨rfl, rfl⟩
    go_wp2_with fail
    refine (HT.out _ HB.out).mono ?_
    rintro e w2 ⟨rfl, hb2⟩
    have HB2 := Lib.hid (Below.next HB.out hb2)
    clear hb2
    go_wp2_with fail
    go_ret3
    exact ⟨rfl, HB2.out⟩

theorem len_any {w : World} {L : Lay} {s r : List (It ByteArray)} (h : ListS w L s r) :
    Calls Try.prog 15 #[.pointer (some ⟨L.b, 0, none⟩)] w fun e w' => e = .returned (.int .i64 (r.length : Int)) ∧ w' = w := by
  have hv := h.vec
  obtain ⟨ao, cap, e⟩ := row_any h.row
  rw [e] at hv
  generalize r.length = n at *
  clear h e
  go_enter Try.func15, Try.ntmps15
  go_wp2_with fail
  go_ret
  exact ⟨rfl, rfl⟩

/-- A new list. -/
theorem new_any (w : World) :
    Calls Try.prog 11 #[] w fun e w' => e = .returned (.pointer (some ⟨w.heap.size, 0, none⟩)) ∧ Below w.heap.size w w' ∧ ListS w' ⟨w.heap.size, .slice none 0 0, fun _ => 0⟩ [] [] := by
  go_enter Try.func11, Try.ntmps11
  go_wp2_with fail
  go_ret
  refine ⟨rfl, (Below.refl _ _).alloc (Nat.le_refl _) _, ?_⟩
  refine ⟨Kin.nil, by simp, by simp, by simp, ?_, World.ownsRow_nil .., ?_, by simp⟩
  · rw [heap_alloc_new]; rfl
  · intro A k q B e
    have := congrArg List.length e
    simp [shape] at this

end Go.Proofs.Ytghfgffgcknbmaa.Sk
