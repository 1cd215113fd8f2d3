/- Plain facts for FrameTail: frames that are cut and turned. -/
import Derived.Test.YtalmkgjinabceaaDoorFrE
import Derived.Test.YtalmkgjinabceaaDoorCellV
namespace Go.Proofs.YtalmkgjinabceaaDoor
open Go.RowKit

theorem short_of {ss : List ByteArray} (h : totS ss ≤ 4000) : ∀ s ∈ ss, s.size ≤ 524288 := fun s hs => by have := totS_mem hs; omega
theorem cells_few (ss : List ByteArray) : cellsS ss ≤ totS ss + ss.length := by
  induction ss with
  | nil => exact Nat.zero_le _
  | cons s ss ih =>
    unfold cellsS totS at *
    rw [List.map_cons, List.sum_cons, List.map_cons, List.sum_cons, List.length_cons]
    have : Cr.cells s ≤ s.size + 1 := by unfold Cr.cells; omega
    omega
theorem frames_few {ss : List ByteArray} (h1 : ss.length ≤ 60) (h2 : totS ss ≤ 4000) : (Cr.frames ss).length ≤ 129920 := by
  rw [frames_length]
  have := cells_few ss
  omega

/-- Of frames' bytes T, cut, some are turned in U, the first one at H. -/
structure Harm (l0 : List ByteArray) (T U : ByteArray) (at_ H : Nat) : Prop where
  pre : T.data.toList = (Cr.frames l0).take T.size
  len : U.size = T.size
  out : ∀ i, (i < at_ ∨ at_ + 4 ≤ i) → U.data.toList[i]? = T.data.toList[i]?
  before : ∀ i, i < H → U.data.toList[i]? = T.data.toList[i]?
  le : H ≤ T.size
  at' : H < T.size → U.data.toList[H]? ≠ T.data.toList[H]?

theorem Harm.read {l0 : List ByteArray} {T U : ByteArray} {at_ H : Nat} (h : Harm l0 T U at_ H) (hs : ∀ r ∈ l0, r.size ≤ 524288) {k : Nat} (hk : k ≤ l0.length) (hlo : (Cr.frames (l0.take k)).length ≤ H)
    (hhi : k < l0.length → H < (Cr.frames (l0.take (k + 1))).length) : Cr.rda U.data.toList = (l0.take k, (Cr.frames (l0.take k)).length) :=
  Cr.rda_tail (t := T.data.toList) (at_ := at_) (harm := H) hs (by rw [Cr.size_list]; exact h.pre) (by rw [Cr.size_list, Cr.size_list]; exact h.len) h.out h.before (by rw [Cr.size_list]; exact h.le) (by rw [Cr.size_list]; exact h.at') hk hlo hhi

/-- How far the first byte that was turned was looked for. -/
def Seek (T U : ByteArray) (H j : Nat) : Prop :=
  (H = T.size ∧ ∀ q, q < j → U.data.toList[q]? = T.data.toList[q]?) ∨ (H < T.size ∧ j = H + 1 ∧ (∀ q, q < H → U.data.toList[q]? = T.data.toList[q]?) ∧ U.data.toList[H]? ≠ T.data.toList[H]?)
theorem Seek.zero (T U : ByteArray) : Seek T U T.size 0 := Or.inl ⟨rfl, fun q hq => by omega⟩
theorem byte_at (s : ByteArray) (i : Nat) (h : i < s.size) : s.data.toList[i]? = some (s[i]'h) := by
  rw [List.getElem?_eq_getElem (by rw [Cr.size_list]; exact h)]; rfl
theorem Seek.same {T U : ByteArray} {j : Nat} (h : Seek T U T.size j) (hj : j < T.size) (hU : U.size = T.size) (he : T[j] = U[j]'(by omega)) : Seek T U T.size (j + 1) := by
  rcases h with ⟨_, h⟩ | ⟨h, _⟩
  · refine Or.inl ⟨rfl, fun q hq => ?_⟩
    by_cases e : q = j
    · subst e; rw [byte_at _ _ hj, byte_at _ _ (by omega), he]
    · exact h q (by omega)
  · omega
theorem Seek.found {T U : ByteArray} {j : Nat} (h : Seek T U T.size j) (hj : j < T.size) (hU : U.size = T.size) (he : ¬ T[j] = U[j]'(by omega)) : Seek T U j (j + 1) := by
  rcases h with ⟨_, h⟩ | ⟨h, _⟩
  · refine Or.inr ⟨hj, rfl, h, ?_⟩
    rw [byte_at _ _ hj, byte_at _ _ (by omega)]
    intro e
    exact he (Option.some.inj e).symm
  · omega
theorem Seek.done {l0 : List ByteArray} {T U : ByteArray} {at_ H j : Nat} (h : Seek T U H j) (hpre : T.data.toList = (Cr.frames l0).take T.size) (hlen : U.size = T.size)
    (hout : ∀ i, (i < at_ ∨ at_ + 4 ≤ i) → U.data.toList[i]? = T.data.toList[i]?) (hj : T.size ≤ j ∨ ¬ H = T.size) : Harm l0 T U at_ H := by
  rcases h with ⟨h1, h2⟩ | ⟨h1, h2, h3, h4⟩
  · exact ⟨hpre, hlen, hout, fun i hi => h2 i (by omega), by omega, fun hlt => by omega⟩
  · exact ⟨hpre, hlen, hout, h3, by omega, fun _ => h4⟩
theorem Seek.le {T U : ByteArray} {H j : Nat} (h : Seek T U H j) : H ≤ T.size := by
  rcases h with ⟨h, _⟩ | ⟨h, _⟩ <;> omega
/-- Nothing was left to be turned. -/
theorem harm_none {l0 : List ByteArray} {T : ByteArray} (h : T.data.toList = (Cr.frames l0).take T.size) : Harm l0 T T 0 T.size :=
  ⟨h, rfl, fun _ _ => rfl, fun _ _ => rfl, Nat.le_refl _, fun h => by omega⟩
theorem turned_out (s : ByteArray) (at_ mask : Nat) : ∀ i, (i < at_ ∨ at_ + 4 ≤ i) → (⟨(Cr.turn s.data.toList at_ mask 4).toArray⟩ : ByteArray).data.toList[i]? = s.data.toList[i]? := fun i hi => Cr.turn_at s.data.toList at_ mask 4 i hi
theorem turned_size (s : ByteArray) (at_ mask : Nat) : (⟨(Cr.turn s.data.toList at_ mask 4).toArray⟩ : ByteArray).size = s.size := by
  have := Cr.turn_length s.data.toList at_ mask 4
  rw [Cr.size_list] at this
  exact this

/-- The first texts of a slice. -/
theorem SeesS.take {w : World} {ao : Option Addr} {n c : Nat} {ss : List ByteArray} (h : SeesS w (.slice ao n c) ss) (k : Nat) (hk : k ≤ n) (c' : Nat) : SeesS w (.slice ao k c') (ss.take k) := by
  by_cases h0 : k = 0
  · subst h0; exact Or.inl ⟨by simp, ao, c', rfl⟩
  · obtain ⟨hlen, b, off, hc⟩ := h.get
    obtain ⟨rfl, hb, _⟩ := hc 0 (by omega)
    have hl : (ss.take k).length = k := by rw [List.length_take]; omega
    refine Or.inr ⟨b, off, c', by rw [hl], hb, fun i hi => ?_⟩
    rw [hl] at hi
    obtain ⟨_, _, h3⟩ := hc i (by omega)
    rw [h3]
    congr 2
    simp [hi]

/-- 'l[:q]'. -/
theorem slice_first {w : World} {ao : Option Addr} {n c : Nat} {ss : List ByteArray} (h : SeesS w (.slice ao n c) ss) (q : Nat) (hq : q ≤ n) (hc : q ≤ c) :
    ∃ a', (∀ w', (Instr.slice 25 (.slice ao n c) none (some (.int .i64 (q : Int))) none).run Tryd.prog w' = .ok (.slice a' q c) w') ∧ SeesS w (.slice a' q c) (ss.take q) := by
  obtain ⟨i0, hi, hz0, hz1, hz2⟩ := info_parts info_string
  refine ⟨if c = 0 then ao else ao.map (·.add (0 * 1)), fun w' => ?_, ?_⟩
  · rw [run_slice_h w' 25 ao n c (by kernel_rfl) .i64 q (by omega) (by omega)]
    have he : Tryd.prog.elem 25 = 9 := by kernel_rfl
    rw [he]
    have hs : (sizeOf 9).run Tryd.prog w' = .ok 1 w' := by
      simp [sizeOf, typeInfo, hi, hz1]
    rw [hs]
    simp only [Result.andThen, sliced, Int.toNat_natCast, Nat.sub_zero]
  · by_cases h0 : q = 0
    · subst h0; exact Or.inl ⟨by simp, _, c, rfl⟩
    · obtain ⟨_, b, off, hcell⟩ := h.get
      obtain ⟨rfl, _, _⟩ := hcell 0 (by omega)
      have e : (if c = 0 then some (⟨b, off, none⟩ : Addr) else (some (⟨b, off, none⟩ : Addr)).map (·.add (0 * 1))) = some ⟨b, off, none⟩ := by
        split
        · rfl
        · simp [Addr.add]
      rw [e]
      exact h.take q hq c

end Go.Proofs.YtalmkgjinabceaaDoor
