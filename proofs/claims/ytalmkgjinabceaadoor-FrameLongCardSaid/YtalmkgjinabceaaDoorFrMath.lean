/- Plain facts on frames: no program is named here. -/
import Derived.Test.YtalmkgjinabceaaDoorCellMath
namespace Go.Proofs.YtalmkgjinabceaaDoor.Cr

/-- How many cells a record has. -/
def cells (r : ByteArray) : Nat := max 1 ((r.size + 23) / 24)
/-- A record's cell of a number. -/
def cl (r : ByteArray) (n : Nat) : Cl := ⟨decide (n = 0), decide (n + 1 = cells r), n, r.extract (24 * n) (min (24 * n + 24) r.size)⟩
/-- The bytes of a record's first cells. -/
def frm (r : ByteArray) : Nat → List UInt8
  | 0 => []
  | n + 1 => frm r n ++ mk (cl r n)
/-- The bytes of so many of a record's cells, from one on. -/
def frs (r : ByteArray) : Nat → Nat → List UInt8
  | _, 0 => []
  | n, j + 1 => mk (cl r n) ++ frs r (n + 1) j
/-- A record's frame. -/
def frame (r : ByteArray) : List UInt8 := frm r (cells r)
/-- Frames, one behind the other. -/
def frames (rs : List ByteArray) : List UInt8 := rs.flatMap frame

theorem extract_list (s : ByteArray) (a b : Nat) : (s.extract a b).data.toList = (s.data.toList.drop a).take (b - a) := by
  rw [ByteArray.data_extract, Array.toList_extract, List.extract_eq_take_drop]
theorem size_extract' (s : ByteArray) (a b : Nat) : (s.extract a b).size = min b s.size - a := ByteArray.size_extract

theorem cells_pos (r : ByteArray) : 1 ≤ cells r := by unfold cells; omega
theorem cl_size (r : ByteArray) (n : Nat) : (cl r n).data.size = min (24 * n + 24) r.size - 24 * n := by
  show (r.extract _ _).size = _
  rw [size_extract']; omega
theorem cl_le (r : ByteArray) (n : Nat) : (cl r n).data.size ≤ 24 := by rw [cl_size]; omega
theorem cl_may {r : ByteArray} {n : Nat} (hn : n < cells r) (hr : r.size ≤ 524288) : may (cl r n) = true := by
  have hs := cl_size r n
  have h1 := cl_le r n
  unfold may
  rw [decide_eq_true_eq]
  have e1 : (cl r n).num = (n : Int) := rfl
  have e2 : (cl r n).first = decide (n = 0) := rfl
  have e3 : (cl r n).last = decide (n + 1 = cells r) := rfl
  rw [e1, e2, e3, decide_eq_true_eq, decide_eq_true_eq, hs]
  unfold cells at *
  refine ⟨by omega, by omega, by omega, by omega, by omega, by omega⟩
theorem mk_cl_length (r : ByteArray) (n : Nat) : (mk (cl r n)).length = 32 := mk_length (cl_le r n)
theorem frm_length (r : ByteArray) : ∀ n, (frm r n).length = 32 * n
  | 0 => rfl
  | n + 1 => by rw [frm, List.length_append, frm_length r n, mk_cl_length]; omega
theorem frs_length (r : ByteArray) : ∀ j n, (frs r n j).length = 32 * j
  | 0, _ => rfl
  | j + 1, n => by rw [frs, List.length_append, frs_length r j, mk_cl_length]; omega
theorem frame_length (r : ByteArray) : (frame r).length = 32 * cells r := frm_length r _
theorem frs_snoc (r : ByteArray) : ∀ j n, frs r n (j + 1) = frs r n j ++ mk (cl r (n + j))
  | 0, n => by simp [frs]
  | j + 1, n => by
    rw [frs, frs_snoc r j (n + 1), frs, List.append_assoc]
    have : n + 1 + j = n + (j + 1) := by omega
    rw [this]
theorem frm_frs (r : ByteArray) : ∀ n, frm r n = frs r 0 n
  | 0 => rfl
  | n + 1 => by rw [frm, frm_frs r n, frs_snoc, Nat.zero_add]
theorem frs_split (r : ByteArray) : ∀ i n j, frs r n (i + j) = frs r n i ++ frs r (n + i) j
  | 0, n, j => by simp [frs]
  | i + 1, n, j => by
    rw [show i + 1 + j = (i + j) + 1 by omega, frs, frs_split r i (n + 1) j, frs, List.append_assoc, show n + 1 + i = n + (i + 1) by omega]
theorem frames_nil : frames [] = [] := rfl
theorem frames_cons (r : ByteArray) (rs : List ByteArray) : frames (r :: rs) = frame r ++ frames rs := List.flatMap_cons
theorem frames_append (a b : List ByteArray) : frames (a ++ b) = frames a ++ frames b := List.flatMap_append
theorem frames_one (r : ByteArray) : frames [r] = frame r := by rw [frames_cons, frames_nil, List.append_nil]

/-- The record that the cells from one on say, behind what those ahead of it said, and which cell is the next one. -/
def scan (l : List UInt8) (n : Nat) (d : List UInt8) : Option (ByteArray × Nat) :=
  if l.length < 32 then none else
  match rd (l.take 32) with
  | none => none
  | some c => if c.num ≠ n ∨ 524288 < d.length + c.data.size then none else if c.last = true then some (⟨(d ++ c.data.data.toList).toArray⟩, n + 1) else scan (l.drop 32) (n + 1) (d ++ c.data.data.toList)
termination_by l.length
decreasing_by rw [List.length_drop]; omega

theorem scan_short {l : List UInt8} (h : l.length < 32) (n : Nat) (d : List UInt8) : scan l n d = none := by rw [scan, if_pos h]
theorem scan_none {l : List UInt8} (h : rd (l.take 32) = none) (n : Nat) (d : List UInt8) : scan l n d = none := by
  by_cases hl : l.length < 32
  · exact scan_short hl n d
  · rw [scan, if_neg hl, h]
theorem scan_bad {l : List UInt8} {c : Cl} {n : Nat} {d : List UInt8} (h : rd (l.take 32) = some c) (hb : c.num ≠ n ∨ 524288 < d.length + c.data.size) : scan l n d = none := by
  by_cases hl : l.length < 32
  · exact scan_short hl n d
  · rw [scan, if_neg hl, h]; dsimp only; rw [if_pos hb]
theorem scan_last {l : List UInt8} {c : Cl} {n : Nat} {d : List UInt8} (hl : 32 ≤ l.length) (h : rd (l.take 32) = some c) (h1 : c.num = n) (h2 : d.length + c.data.size ≤ 524288) (h3 : c.last = true) :
    scan l n d = some (⟨(d ++ c.data.data.toList).toArray⟩, n + 1) := by
  rw [scan, if_neg (by omega), h]; dsimp only; rw [if_neg (by omega), if_pos h3]
theorem scan_more {l : List UInt8} {c : Cl} {n : Nat} {d : List UInt8} (hl : 32 ≤ l.length) (h : rd (l.take 32) = some c) (h1 : c.num = n) (h2 : d.length + c.data.size ≤ 524288) (h3 : c.last = false) :
    scan l n d = scan (l.drop 32) (n + 1) (d ++ c.data.data.toList) := by
  rw [scan, if_neg (by omega), h]; dsimp only; rw [if_neg (by omega), if_neg (by rw [h3]; decide)]

theorem take_cl {r : ByteArray} {n : Nat} (h : 24 * n ≤ r.size) : r.data.toList.take (24 * n) ++ (cl r n).data.data.toList = r.data.toList.take (24 * (n + 1)) := by
  show _ ++ (r.extract _ _).data.toList = _
  rw [extract_list]
  have hl := size_list r
  have e : r.data.toList.take (24 * (n + 1)) = r.data.toList.take (24 * n + (min (24 * n + 24) r.size - 24 * n)) := by
    by_cases hc : 24 * (n + 1) ≤ r.size
    · congr 1; omega
    · rw [List.take_of_length_le (by omega), List.take_of_length_le (by omega)]
  rw [e, List.take_add]
theorem of_toList (r : ByteArray) : (⟨r.data.toList.toArray⟩ : ByteArray) = r := by cases r; simp

theorem cell_at {r : ByteArray} {n : Nat} (hn : n < cells r) : 24 * n ≤ r.size := by unfold cells at hn; omega

/-- A record's cell is read on. -/
theorem scan_cell {r : ByteArray} {n : Nat} (t : List UInt8) (hn : n < cells r) (hr : r.size ≤ 524288) :
    scan (mk (cl r n) ++ t) n (r.data.toList.take (24 * n)) = if n + 1 = cells r then some (r, n + 1) else scan t (n + 1) (r.data.toList.take (24 * (n + 1))) := by
  have hl := mk_cl_length r n
  have ht : (mk (cl r n) ++ t).take 32 = mk (cl r n) := List.take_left' hl
  have hd : (mk (cl r n) ++ t).drop 32 = t := List.drop_left' hl
  have hrd := rd_mk (cl_may hn hr)
  have hat := cell_at hn
  have hsz : (r.data.toList.take (24 * n)).length + (cl r n).data.size ≤ 524288 := by
    rw [cl_size, List.length_take, size_list]; omega
  rw [← ht] at hrd
  have hlen : 32 ≤ (mk (cl r n) ++ t).length := by rw [List.length_append]; omega
  by_cases hlast : n + 1 = cells r
  · rw [if_pos hlast, scan_last hlen hrd rfl hsz (decide_eq_true hlast), take_cl hat, List.take_of_length_le (by rw [size_list]; unfold cells at hlast; omega), of_toList]
  · rw [if_neg hlast, scan_more hlen hrd rfl hsz (decide_eq_false hlast), take_cl hat, hd]

/-- What stands behind some of a record's cells, but not all of them, decides. -/
theorem scan_to {r : ByteArray} (hr : r.size ≤ 524288) (t : List UInt8) : ∀ j n, n + j < cells r → scan (frs r n j ++ t) n (r.data.toList.take (24 * n)) = scan t (n + j) (r.data.toList.take (24 * (n + j)))
  | 0, n, _ => by simp [frs]
  | j + 1, n, h => by
    rw [frs, List.append_assoc, scan_cell _ (by omega) hr, if_neg (by omega), scan_to hr t j (n + 1) (by omega), show n + 1 + j = n + (j + 1) by omega]

/-- The record that a text begins with, and how many cells that has. -/
def frl (l : List UInt8) : Option (ByteArray × Nat) := scan l 0 []

theorem frl_to {r : ByteArray} (hr : r.size ≤ 524288) (t : List UInt8) {j : Nat} (h : j < cells r) : frl (frm r j ++ t) = scan t j (r.data.toList.take (24 * j)) := by
  have := scan_to hr t j 0 (by omega)
  rw [Nat.zero_add, Nat.mul_zero, List.take_zero] at this
  rw [frm_frs]; exact this
theorem frl_frame {r : ByteArray} (hr : r.size ≤ 524288) (t : List UInt8) : frl (frame r ++ t) = some (r, cells r) := by
  have h1 := cells_pos r
  obtain ⟨k, hk⟩ : ∃ k, cells r = k + 1 := ⟨cells r - 1, by omega⟩
  unfold frame
  rw [hk, frm, List.append_assoc, frl_to hr _ (by omega), scan_cell _ (by omega) hr, if_pos hk.symm]
/-- A text that is, from one of a record's cells on, none's. -/
theorem frl_stuck {r : ByteArray} (hr : r.size ≤ 524288) {t : List UInt8} {j : Nat} (h : j < cells r) (ht : t.length < 32 ∨ rd (t.take 32) = none) : frl (frm r j ++ t) = none := by
  rw [frl_to hr t h]
  rcases ht with ht | ht
  · exact scan_short ht _ _
  · exact scan_none ht _ _
theorem frl_short {l : List UInt8} (h : l.length < 32) : frl l = none := scan_short h _ _

theorem may_parts {c : Cl} (h : may c = true) : 0 ≤ c.num ∧ c.num ≤ 65535 ∧ (c.first = true ↔ c.num = 0) ∧ c.data.size ≤ 24 ∧ (c.last = true ∨ c.data.size = 24) ∧ (c.data.size ≠ 0 ∨ c.first = true) := by
  unfold may at h; rwa [decide_eq_true_eq] at h

/-- What was read are a record's cells. -/
theorem scan_some : ∀ (m : Nat) (l : List UInt8) (n : Nat) (d : List UInt8) (r : ByteArray) (k : Nat), l.length ≤ m → d.length = 24 * n → scan l n d = some (r, k) →
    n < k ∧ k = cells r ∧ r.size ≤ 524288 ∧ 32 * (k - n) ≤ l.length ∧ l.take (32 * (k - n)) = frs r n (k - n) ∧ r.data.toList.take (24 * n) = d := by
  intro m
  induction m with
  | zero => intro l n d r k hm hd h; rw [scan_short (by omega)] at h; cases h
  | succ m ih =>
    intro l n d r k hm hd h
    by_cases hl : l.length < 32
    · rw [scan_short hl] at h; cases h
    · have hl' : 32 ≤ l.length := by omega
      cases hc : rd (l.take 32) with
      | none => rw [scan_none hc] at h; cases h
      | some c =>
        by_cases hb : c.num ≠ n ∨ 524288 < d.length + c.data.size
        · rw [scan_bad hc hb] at h; cases h
        · obtain ⟨hmay, hmk, _⟩ := rd_some hc
          obtain ⟨m1, m2, m3, m4, m5, m6⟩ := may_parts hmay
          have hcn : c.num = n := by omega
          have hsz : d.length + c.data.size ≤ 524288 := by omega
          have hln : c.data.data.toList.length = c.data.size := size_list _
          by_cases hlast : c.last = true
          · rw [scan_last hl' hc hcn hsz hlast] at h
            simp only [Option.some.injEq, Prod.mk.injEq] at h
            obtain ⟨hr, rfl⟩ := h
            have hrl : r.data.toList = d ++ c.data.data.toList := by rw [← hr]
            have hrs : r.size = 24 * n + c.data.size := by rw [← size_list, hrl, List.length_append]; omega
            have hfirst : c.first = true ↔ n = 0 := by rw [m3]; omega
            have hcells : cells r = n + 1 := by
              unfold cells
              rw [hrs]
              rcases m6 with h | h
              · omega
              · have := hfirst.1 h; omega
            have hcl : cl r n = c := by
              refine Cl.eq ?_ ?_ hcn.symm ?_
              · show decide (n = 0) = c.first
                rw [Bool.eq_iff_iff, decide_eq_true_eq]; exact hfirst.symm
              · show decide (n + 1 = cells r) = c.last
                rw [hlast, decide_eq_true_eq]; exact hcells.symm
              · show r.extract _ _ = c.data
                apply ByteArray.ext; apply Array.toList_inj.1
                rw [extract_list, hrl, List.drop_left' hd, List.take_of_length_le (by omega)]
            refine ⟨by omega, hcells.symm, by omega, ?_, ?_, ?_⟩
            · rw [show n + 1 - n = 1 by omega]; omega
            · rw [show n + 1 - n = 1 by omega, frs, frs, hcl, List.append_nil, hmk]
            · rw [hrl, List.take_left' hd]
          · have hlf : c.last = false := by simpa using hlast
            have h24 : c.data.size = 24 := by rcases m5 with h | h; exact absurd h hlast; exact h
            rw [scan_more hl' hc hcn hsz hlf] at h
            have hdl : (d ++ c.data.data.toList).length = 24 * (n + 1) := by rw [List.length_append]; omega
            obtain ⟨i1, i2, i3, i4, i5, i6⟩ := ih _ _ _ r k (by rw [List.length_drop]; omega) hdl h
            rw [List.length_drop] at i4
            have hrs : 24 * (n + 1) ≤ r.size := by
              have := congrArg List.length i6
              rw [hdl, List.length_take, size_list] at this
              omega
            have hrd : r.data.toList.take (24 * n) = d := by
              have := congrArg (List.take (24 * n)) i6
              rw [List.take_take, Nat.min_eq_left (by omega), List.take_left' hd] at this
              exact this
            have hfirst : c.first = true ↔ n = 0 := by rw [m3]; omega
            have hcl : cl r n = c := by
              refine Cl.eq ?_ ?_ hcn.symm ?_
              · show decide (n = 0) = c.first
                rw [Bool.eq_iff_iff, decide_eq_true_eq]; exact hfirst.symm
              · show decide (n + 1 = cells r) = c.last
                rw [hlf, decide_eq_false_iff_not]; omega
              · show r.extract _ _ = c.data
                apply ByteArray.ext; apply Array.toList_inj.1
                rw [extract_list, show min (24 * n + 24) r.size - 24 * n = 24 by omega]
                have := congrArg (List.drop (24 * n)) i6
                rw [List.drop_left' hd, List.drop_take, show 24 * (n + 1) - 24 * n = 24 by omega] at this
                exact this
            refine ⟨by omega, i2, i3, by omega, ?_, hrd⟩
            obtain ⟨q, hq⟩ : ∃ q, k - n = q + 1 := ⟨k - n - 1, by omega⟩
            have hq' : k - (n + 1) = q := by omega
            rw [hq'] at i5
            rw [hq, frs, hcl, ← i5, hmk, show 32 * (q + 1) = 32 + 32 * q by omega, List.take_add]

theorem frl_some {l : List UInt8} {r : ByteArray} {k : Nat} (h : frl l = some (r, k)) : k = cells r ∧ r.size ≤ 524288 ∧ 32 * k ≤ l.length ∧ l.take (32 * k) = frame r := by
  obtain ⟨_, h2, h3, h4, h5, _⟩ := scan_some l.length l 0 [] r k (Nat.le_refl _) rfl h
  rw [Nat.sub_zero] at h4 h5
  refine ⟨h2, h3, h4, ?_⟩
  rw [h5, frame, frm_frs, h2]
theorem frl_pos {l : List UInt8} {r : ByteArray} {k : Nat} (h : frl l = some (r, k)) : 1 ≤ k := by
  rw [(frl_some h).1]; exact cells_pos r

/-- The records that are whole, and how many bytes they have. -/
def rda (l : List UInt8) : List ByteArray × Nat :=
  match h : frl l with
  | none => ([], 0)
  | some (r, k) => (r :: (rda (l.drop (32 * k))).1, 32 * k + (rda (l.drop (32 * k))).2)
termination_by l.length
decreasing_by all_goals (have h1 := frl_pos h; have h2 := (frl_some h).2.2.1; rw [List.length_drop]; omega)

theorem rda_none {l : List UInt8} (h : frl l = none) : rda l = ([], 0) := by
  rw [rda]; split
  · rfl
  · rename_i h2; rw [h] at h2; cases h2
theorem rda_some {l : List UInt8} {r : ByteArray} {k : Nat} (h : frl l = some (r, k)) : rda l = (r :: (rda (l.drop (32 * k))).1, 32 * k + (rda (l.drop (32 * k))).2) := by
  rw [rda]; split
  · rename_i h2; rw [h] at h2; cases h2
  · rename_i r' k' h2
    rw [h] at h2
    simp only [Option.some.injEq, Prod.mk.injEq] at h2
    obtain ⟨rfl, rfl⟩ := h2
    rfl

theorem rda_frames (t : List UInt8) : ∀ rs : List ByteArray, (∀ r ∈ rs, r.size ≤ 524288) → rda (frames rs ++ t) = (rs ++ (rda t).1, (frames rs).length + (rda t).2)
  | [], _ => by rw [frames_nil]; simp
  | r :: rs, h => by
    have hr := h r (List.mem_cons_self ..)
    rw [frames_cons, List.append_assoc, rda_some (frl_frame hr _), ← frame_length, List.drop_left, rda_frames t rs (fun x hx => h x (List.mem_cons_of_mem _ hx)), List.length_append]
    simp [Nat.add_assoc]

theorem rda_spec : ∀ (m : Nat) (l : List UInt8) (rs : List ByteArray) (w : Nat), l.length ≤ m → rda l = (rs, w) →
    frames rs = l.take w ∧ w ≤ l.length ∧ w % 32 = 0 ∧ frl (l.drop w) = none ∧ (∀ r ∈ rs, r.size ≤ 524288) ∧ 32 * rs.length ≤ w := by
  intro m
  induction m with
  | zero =>
    intro l rs w hm h
    have hf := frl_short (l := l) (by omega)
    rw [rda_none hf] at h
    simp only [Prod.mk.injEq] at h
    obtain ⟨rfl, rfl⟩ := h
    exact ⟨rfl, by omega, rfl, by simpa using hf, by simp, by simp⟩
  | succ m ih =>
    intro l rs w hm h
    cases hf : frl l with
    | none =>
      rw [rda_none hf] at h
      simp only [Prod.mk.injEq] at h
      obtain ⟨rfl, rfl⟩ := h
      exact ⟨rfl, by omega, rfl, by simpa using hf, by simp, by simp⟩
    | some p =>
      obtain ⟨r, k⟩ := p
      obtain ⟨h1, h2, h3, h4⟩ := frl_some hf
      have hk := frl_pos hf
      rw [rda_some hf] at h
      simp only [Prod.mk.injEq] at h
      obtain ⟨i1, i2, i3, i4, i5, i6⟩ := ih (l.drop (32 * k)) _ _ (by rw [List.length_drop]; omega) rfl
      obtain ⟨rfl, rfl⟩ := h
      rw [List.length_drop] at i2
      refine ⟨?_, by omega, by omega, by rw [List.drop_drop] at i4; exact i4, ?_, by rw [List.length_cons]; omega⟩
      · rw [frames_cons, i1, ← h4, List.take_add]
      · intro x hx
        rcases List.mem_cons.1 hx with rfl | hx
        · exact h2
        · exact i5 x hx

/-- A frame that is cut is none. -/
theorem frl_cut {r : ByteArray} (hr : r.size ≤ 524288) {m : Nat} (h : m < (frame r).length) : frl ((frame r).take m) = none := by
  rw [frame_length] at h
  have hj : m / 32 < cells r := by omega
  have e : frame r = frm r (m / 32) ++ frs r (m / 32) (cells r - m / 32) := by
    unfold frame
    conv => lhs; rw [show cells r = m / 32 + (cells r - m / 32) by omega, frm_frs, frs_split, Nat.zero_add, ← frm_frs]
  rw [e, List.take_append, List.take_of_length_le (by rw [frm_length]; omega)]
  exact frl_stuck hr hj (Or.inl (by rw [List.length_take, frm_length]; omega))

/-- Without its last byte a text has one record less. -/
theorem rda_less {l : List UInt8} {rs : List ByteArray} {w : Nat} (h : rda l = (rs, w)) (hw : 0 < w) : (rda (l.take (w - 1))).1.length + 1 = rs.length := by
  obtain ⟨h1, h2, _, _, h5, _⟩ := rda_spec l.length l rs w (Nat.le_refl _) h
  rcases List.eq_nil_or_concat rs with rfl | ⟨init, last, rfl⟩
  · have := congrArg List.length h1
    rw [frames_nil, List.length_take] at this
    simp only [List.length_nil] at this
    omega
  · rw [List.concat_eq_append] at *
    rw [frames_append, frames_one] at h1
    have hlen := congrArg List.length h1
    rw [List.length_append, List.length_take, Nat.min_eq_left h2] at hlen
    have hp : 1 ≤ (frame last).length := by rw [frame_length]; have := cells_pos last; omega
    have e : l.take (w - 1) = frames init ++ (frame last).take ((frame last).length - 1) := by
      have e1 : l.take (w - 1) = (l.take w).take (w - 1) := by rw [List.take_take, Nat.min_eq_left (by omega)]
      rw [e1, ← h1, List.take_append, List.take_of_length_le (by omega)]
      congr 2; omega
    rw [e, rda_frames _ init (fun x hx => h5 x (List.mem_append_left _ hx)), rda_none (frl_cut (h5 last (by simp)) (by omega)), List.length_append, List.length_append]
    rfl

theorem turn_at (l : List UInt8) (at_ mask : Nat) : ∀ k i, (i < at_ ∨ at_ + k ≤ i) → (turn l at_ mask k)[i]? = l[i]?
  | 0, _, _ => rfl
  | k + 1, i, h => by rw [turn, List.getElem?_set_ne (by omega), turn_at l at_ mask k i (by omega)]

theorem burst_ext {x y : List UInt8} (hl : x.length = y.length) (lo : Nat) (h : ∀ i, (i < lo ∨ lo + 4 ≤ i) → x[i]? = y[i]?) :
    ∃ a m n b : List UInt8, x = a ++ m ++ b ∧ y = a ++ n ++ b ∧ m.length ≤ 4 ∧ m.length = n.length := by
  refine ⟨x.take lo, (x.drop lo).take 4, (y.drop lo).take 4, (x.drop lo).drop 4, parts_of x lo 4, ?_, by rw [List.length_take]; omega, by rw [List.length_take, List.length_take, List.length_drop, List.length_drop, hl]⟩
  have e1 : x.take lo = y.take lo := by
    apply List.ext_getElem?
    intro i
    rw [List.getElem?_take, List.getElem?_take]
    split
    · exact h i (Or.inl (by assumption))
    · rfl
  have e2 : (x.drop lo).drop 4 = (y.drop lo).drop 4 := by
    apply List.ext_getElem?
    intro i
    rw [List.drop_drop, List.drop_drop, List.getElem?_drop, List.getElem?_drop]
    exact h _ (Or.inr (by omega))
  rw [e1, e2]
  exact parts_of y lo 4

/-- Of frames that are cut and turned the records are read whose frames lie whole ahead. -/
theorem rda_tail {rs : List ByteArray} (hs : ∀ r ∈ rs, r.size ≤ 524288) {t u : List UInt8} {at_ harm n : Nat} (ht : t = (frames rs).take t.length) (hu : u.length = t.length)
    (hout : ∀ i, (i < at_ ∨ at_ + 4 ≤ i) → u[i]? = t[i]?) (hbefore : ∀ i, i < harm → u[i]? = t[i]?) (hharm : harm ≤ t.length) (hat : harm < t.length → u[harm]? ≠ t[harm]?)
    (hn : n ≤ rs.length) (hlo : (frames (rs.take n)).length ≤ harm) (hhi : n < rs.length → harm < (frames (rs.take (n + 1))).length) :
    rda u = (rs.take n, (frames (rs.take n)).length) := by
  generalize hwant : (frames (rs.take n)).length = want at *
  have hsplit : frames rs = frames (rs.take n) ++ frames (rs.drop n) := by rw [← frames_append, List.take_append_drop]
  have htw : ∀ i, i < t.length → t[i]? = (frames rs)[i]? := by
    intro i hi
    conv => lhs; rw [ht]
    rw [List.getElem?_take, if_pos hi]
  have huw : u.take want = frames (rs.take n) := by
    apply List.ext_getElem?
    intro i
    rw [List.getElem?_take]
    split
    · rename_i hi
      rw [hbefore i (by omega), htw i (by omega), hsplit, List.getElem?_append_left (by omega)]
    · rw [List.getElem?_eq_none (by omega)]
  have hue : u = frames (rs.take n) ++ u.drop want := by rw [← huw, List.take_append_drop]
  have hnone : frl (u.drop want) = none := by
    by_cases hlast : n = rs.length
    · apply frl_short
      subst hlast
      rw [List.take_length] at hwant
      have := congrArg List.length ht
      rw [List.length_take] at this
      rw [List.length_drop]; omega
    · have hlt : n < rs.length := by omega
      have hhi := hhi hlt
      have hr : (rs[n]).size ≤ 524288 := hs _ (List.getElem_mem hlt)
      rw [List.take_succ_eq_append_getElem hlt, frames_append, List.length_append, hwant, frames_one, frame_length] at hhi
      have hdrop : rs.drop n = rs[n] :: rs.drop (n + 1) := List.drop_eq_getElem_cons hlt
      rw [hdrop, frames_cons] at hsplit
      generalize hR : rs[n] = r at *
      obtain ⟨j, hj⟩ : ∃ j, j = (harm - want) / 32 := ⟨_, rfl⟩
      have hjc : j < cells r := by omega
      have hsplit2 : frame r = frm r j ++ (mk (cl r j) ++ frs r (j + 1) (cells r - (j + 1))) := by
        have : cells r = j + ((cells r - (j + 1)) + 1) := by omega
        unfold frame
        conv => lhs; rw [this, frm_frs, frs_split, Nat.zero_add, ← frm_frs, frs]
      have hF : ∀ i, i < 32 → (frames rs)[want + 32 * j + i]? = (mk (cl r j))[i]? := by
        intro i hi
        have hml := mk_cl_length r j
        have hfl := frm_length r j
        rw [hsplit, List.getElem?_append_right (by omega), hwant, hsplit2, List.append_assoc, List.getElem?_append_right (by omega), hfl, List.append_assoc, List.getElem?_append_left (by omega)]
        congr 1; omega
      have hP : u.drop want = frm r j ++ u.drop (want + 32 * j) := by
        have hfl := frm_length r j
        have e : (u.drop want).take (32 * j) = frm r j := by
          apply List.ext_getElem?
          intro i
          rw [List.getElem?_take]
          split
          · rename_i hi
            rw [List.getElem?_drop, hbefore _ (by omega), htw _ (by omega), hsplit, List.getElem?_append_right (by omega), hwant, hsplit2, List.append_assoc, List.getElem?_append_left (by omega)]
            congr 1; omega
          · rw [List.getElem?_eq_none (by omega)]
        rw [← e, ← List.drop_drop, List.take_append_drop]
      rw [hP]
      apply frl_stuck hr hjc
      by_cases hq : (u.drop (want + 32 * j)).length < 32
      · exact Or.inl hq
      · right
        rw [List.length_drop] at hq
        cases hc : rd ((u.drop (want + 32 * j)).take 32) with
        | none => rfl
        | some c =>
          exfalso
          obtain ⟨_, h2, _⟩ := rd_some hc
          have hyl : ((u.drop (want + 32 * j)).take 32).length = 32 := by rw [List.length_take, List.length_drop]; omega
          have hxi : ∀ i, i < 32 → (mk (cl r j))[i]? = t[want + 32 * j + i]? := fun i hi => by rw [htw _ (by omega), hF i hi]
          have hyi : ∀ i, i < 32 → ((u.drop (want + 32 * j)).take 32)[i]? = u[want + 32 * j + i]? := fun i hi => by rw [List.getElem?_take, if_pos hi, List.getElem?_drop]
          obtain ⟨a, m, m', b, e1, e2, hm, hm'⟩ := burst_ext (x := mk (cl r j)) (y := (u.drop (want + 32 * j)).take 32) (by rw [hyl, mk_cl_length]) (at_ - (want + 32 * j)) (by
            intro i hi
            by_cases hi32 : i < 32
            · rw [hxi i hi32, hyi i hi32, hout _ (by omega)]
            · rw [List.getElem?_eq_none (by rw [mk_cl_length]; omega), List.getElem?_eq_none (by omega)])
          have hmm := whole_burst (a := head (cl r j)) (b := head c) hm hm' e1 (h2.trans e2)
          rw [hmm, ← e2] at e1
          have hk : harm - (want + 32 * j) < 32 := by omega
          have h3 := hxi _ hk
          rw [e1, hyi _ hk, show want + 32 * j + (harm - (want + 32 * j)) = harm by omega] at h3
          exact hat (by omega) h3
  have hsn : ∀ r ∈ rs.take n, r.size ≤ 524288 := fun r hr => hs r (List.mem_of_mem_take hr)
  rw [hue, rda_frames _ _ hsn, rda_none hnone, hwant, List.append_nil]
  rfl

end Go.Proofs.YtalmkgjinabceaaDoor.Cr
