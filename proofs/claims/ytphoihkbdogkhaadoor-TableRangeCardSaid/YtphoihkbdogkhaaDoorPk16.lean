/- Texts on the program's own functions, several in one: TbArgs, TbGreat, TbGreatE, TbTook, TbTk, TbBt, TbOp, TbAw. -/
import Derived.Test.YtphoihkbdogkhaaDoorPk15
import Derived.ProofKit
import Derived.OpenShut
import Derived.ShutString
import Derived.ChangeOld
import Derived.SliceStrings
import Derived.Deep.Slices
import Derived.Deep.Fields
import Derived.Deep.RegionHeld3
import Derived.Deep.RegionLaw

/- Entries that came in, as a list. -/
namespace Go.Proofs.YtphoihkbdogkhaaDoor.Bn.Tw
open Go Go.RowKit Go.Proofs.YtphoihkbdogkhaaDoor.Tb Go.ChangeShapes Go.WideShapes Go.ChangeAt
set_option linter.unusedVariables false

/-- Entries that lie in memory. -/
def SeesI (w : World) (v : Value) (l : List Ent) : Prop :=
  (l = [] ∧ ∃ a cap, v = .slice a 0 cap) ∨ ∃ b off cap, v = .slice (some ⟨b, off, none⟩) l.length cap ∧ b < w.heap.size ∧ ∀ i x, l[i]? = some x → (x.seq < 18446744073709551616 ∧ x.key.size ≤ maxLen ∧ x.val.size ≤ maxLen) ∧
    w.cell? ⟨b, off + i * 4, none⟩ = some (.string x.key) ∧ w.cell? ⟨b, off + i * 4 + 1, none⟩ = some (.string x.val) ∧ w.cell? ⟨b, off + i * 4 + 2, none⟩ = some (.int .u64 (x.seq : Int)) ∧ w.cell? ⟨b, off + i * 4 + 3, none⟩ = some (.bool x.gone)
theorem SeesI.shape {w : World} {v : Value} {l : List Ent} (h : SeesI w v l) : ∃ a cap, v = .slice a l.length cap := by
  rcases h with ⟨rfl, a, cap, rfl⟩ | ⟨b, off, cap, rfl, _⟩ <;> exact ⟨_, _, rfl⟩
theorem SeesI.len {w : World} {a : Option Addr} {n cap : Nat} {l : List Ent} (h : SeesI w (.slice a n cap) l) : l.length = n := by
  obtain ⟨_, _, e⟩ := h.shape
  simp only [Value.slice.injEq] at e
  exact e.2.1.symm
theorem SeesI.below {w w' : World} {v : Value} {l : List Ent} (h : SeesI w v l) (hb : Below w.heap.size w w') : SeesI w' v l := by
  rcases h with h | ⟨b, off, cap, rfl, hlt, hc⟩
  · exact Or.inl h
  · refine Or.inr ⟨b, off, cap, rfl, Nat.lt_of_lt_of_le hlt hb.size, fun i x hi => ?_⟩
    obtain ⟨hf, c0, c1, c2, c3⟩ := hc i x hi
    exact ⟨hf, (hb.cell (p := ⟨b, _, none⟩) hlt).trans c0, (hb.cell (p := ⟨b, _, none⟩) hlt).trans c1, (hb.cell (p := ⟨b, _, none⟩) hlt).trans c2, (hb.cell (p := ⟨b, _, none⟩) hlt).trans c3⟩
/-- One of them. -/
theorem SeesI.get {w : World} {ao : Option Addr} {n cap : Nat} {l : List Ent} (h : SeesI w (.slice ao n cap) l) {i : Nat} {x : Ent} (hi : l[i]? = some x) : ∃ b off, ao = some ⟨b, off, none⟩ ∧ b < w.heap.size ∧ (x.seq < 18446744073709551616 ∧ x.key.size ≤ maxLen ∧ x.val.size ≤ maxLen) ∧
    w.cell? ⟨b, off + i * 4, none⟩ = some (.string x.key) ∧ w.cell? ⟨b, off + i * 4 + 1, none⟩ = some (.string x.val) ∧ w.cell? ⟨b, off + i * 4 + 2, none⟩ = some (.int .u64 (x.seq : Int)) ∧ w.cell? ⟨b, off + i * 4 + 3, none⟩ = some (.bool x.gone) := by
  rcases h with ⟨rfl, _⟩ | ⟨b, off, c, e, hb, hc⟩
  · simp at hi
  · simp only [Value.slice.injEq] at e
    obtain ⟨rfl, rfl, rfl⟩ := e
    obtain ⟨h1, h2⟩ := hc i x hi
    exact ⟨b, off, rfl, hb, h1, h2⟩

theorem list_ofI {Q : Nat → Ent → Prop} : ∀ n : Nat, (∀ i, i < n → ∃ p, Q i p) → ∃ ps : List Ent, ps.length = n ∧ ∀ i x, ps[i]? = some x → Q i x
  | 0, _ => ⟨[], rfl, fun i x hi => by simp at hi⟩
  | n + 1, h => by
    obtain ⟨ps, hl, hq⟩ := list_ofI n (fun i hi => h i (by omega))
    obtain ⟨p, hp⟩ := h n (by omega)
    refine ⟨ps ++ [p], by simp [hl], fun i x hi => ?_⟩
    by_cases e : i < n
    · rw [List.getElem?_append_left (by omega)] at hi
      exact hq i x hi
    · rw [List.getElem?_append_right (by omega)] at hi
      by_cases e2 : i = n
      · subst e2
        rw [hl, Nat.sub_self] at hi
        obtain rfl : p = x := by simpa using hi
        exact hp
      · exfalso
        rw [List.getElem?_eq_none (by simp; omega)] at hi
        cases hi
theorem addPlainI (b off k : Nat) : (⟨b, off, none⟩ : Addr).add k = ⟨b, off + k, none⟩ := by unfold Addr.add; split <;> simp_all

set_option maxRecDepth 100000 in
set_option maxHeartbeats 1000000 in
theorem seesI_of {H : Type} {enc : TypeId × Value → H} {W : World} {a : Option Addr} {len cap : Nat} {d : DataW H} {p : List MemPlace} (h : DataW.Trod enc Tryd.prog W 0 (fun _ => true) true 41 (.slice a len cap) d p) :
    ∃ ps : List Ent, SeesI W (.slice a len cap) ps := by
  obtain ⟨fuel, hf⟩ := h
  rcases Deep.open_slice Tryd.underlying41 hf with ⟨hcs, _⟩ | ⟨x, l, c, m, n, D, Pl, hcs, _, hlc, hcm, hm, _, hel⟩
  · simp [Value.cells] at hcs
    obtain ⟨rfl, rfl, rfl⟩ := hcs
    exact ⟨[], Or.inl ⟨rfl, none, 0, rfl⟩⟩
  · simp [Value.cells] at hcs
    obtain ⟨rfl, rfl, rfl⟩ := hcs
    have hmc : m = cap := by rw [hm]; simp
    have h4 : Tryd.prog.cellsOf 33 = 4 := by kernel_rfl
    have hu1 : Tryd.prog.cellsOf 24 = 1 := by kernel_rfl
    have hs1 : Tryd.prog.cellsOf 9 = 1 := by kernel_rfl
    have hb1 : Tryd.prog.cellsOf 4 = 1 := by kernel_rfl
    have key : ∀ i, i < len → ∃ q : Ent, (q.seq < 18446744073709551616 ∧ q.key.size ≤ maxLen ∧ q.val.size ≤ maxLen) ∧ W.cell? ((x.add (i * 4)).add 0) = some (.string q.key) ∧ W.cell? ((x.add (i * 4)).add 1) = some (.string q.val) ∧ W.cell? ((x.add (i * 4)).add 2) = some (.int .u64 (q.seq : Int)) ∧ W.cell? ((x.add (i * 4)).add 3) = some (.bool q.gone) := by
      intro i hi
      obtain ⟨cs', hc, ht⟩ := hel i (by omega)
      rw [h4] at hc
      obtain ⟨_, hcl, hat⟩ := World.cells?_some hc
      obtain ⟨xs, n', _, _, _, hxl, hfd⟩ := DataW.trod_struct Tryd.underlying33 ht
      match cs', hcl with
      | [c0, c1, c2, c3], _ =>
        match xs, hxl with
        | [y0, y1, y2, y3], _ =>
          have f0 : DataW.trod enc Tryd.prog W 0 (fun _ => true) true n' 9 (([c0, c1, c2, c3].drop 0).take (Tryd.prog.cellsOf 9)) = some y0 := hfd 0 _ rfl
          have f1 : DataW.trod enc Tryd.prog W 0 (fun _ => true) true n' 9 (([c0, c1, c2, c3].drop 1).take (Tryd.prog.cellsOf 9)) = some y1 := hfd 1 _ rfl
          have f2 : DataW.trod enc Tryd.prog W 0 (fun _ => true) true n' 24 (([c0, c1, c2, c3].drop 2).take (Tryd.prog.cellsOf 24)) = some y2 := hfd 2 _ rfl
          have f3 : DataW.trod enc Tryd.prog W 0 (fun _ => true) true n' 4 (([c0, c1, c2, c3].drop 3).take (Tryd.prog.cellsOf 4)) = some y3 := hfd 3 _ rfl
          rw [hs1] at f0 f1
          rw [hu1] at f2
          rw [hb1] at f3
          obtain ⟨s0, e0, _, z0⟩ := DataW.trod_string Tryd.underlying9 f0
          obtain ⟨s1, e1, _, z1⟩ := DataW.trod_string Tryd.underlying9 f1
          obtain ⟨n2', e2, _, w2⟩ := DataW.trod_int Tryd.underlying24 f2
          obtain ⟨b3, e3, _⟩ := DataW.trod_bool Tryd.underlying4 f3
          have k0 : c0 = .string s0 := by simpa using e0
          have k1 : c1 = .string s1 := by simpa using e1
          have k2 : c2 = .int .u64 n2' := by simpa using e2
          have k3 : c3 = .bool b3 := by simpa using e3
          subst k0 k1 k2 k3
          have hr := bounds_u64 w2
          refine ⟨⟨s0, s1, n2'.toNat, b3⟩, ⟨by show n2'.toNat < _; omega, z0, z1⟩, hat 0 (by omega), hat 1 (by omega), ?_, hat 3 (by omega)⟩
          rw [Int.toNat_of_nonneg (by omega)]
          exact hat 2 (by omega)
    by_cases h0 : len = 0
    · subst h0
      exact ⟨[], Or.inl ⟨rfl, _, _, rfl⟩⟩
    · obtain ⟨b, off, spot⟩ := x
      have hspot : spot = none := by
        obtain ⟨q, _, hq, _⟩ := key 0 (by omega)
        simpa [Addr.add] using World.cell?_spot hq
      subst hspot
      have key2 : ∀ i, i < len → ∃ q : Ent, (q.seq < 18446744073709551616 ∧ q.key.size ≤ maxLen ∧ q.val.size ≤ maxLen) ∧ W.cell? ⟨b, off + i * 4, none⟩ = some (.string q.key) ∧ W.cell? ⟨b, off + i * 4 + 1, none⟩ = some (.string q.val) ∧ W.cell? ⟨b, off + i * 4 + 2, none⟩ = some (.int .u64 (q.seq : Int)) ∧ W.cell? ⟨b, off + i * 4 + 3, none⟩ = some (.bool q.gone) := by
        intro i hi
        obtain ⟨q, hq, k0, k1, k2, k3⟩ := key i hi
        rw [addPlainI, addPlainI] at k0 k1 k2 k3
        exact ⟨q, hq, k0, k1, k2, k3⟩
      obtain ⟨ps, hl, hps⟩ := list_ofI len key2
      have hb : b < W.heap.size := by
        obtain ⟨q, _, hq, _⟩ := key2 0 (by omega)
        exact World.block_lt_of_cell? _ _ hq
      exact ⟨ps, Or.inr ⟨b, off, cap, by rw [hl], hb, fun i x hx => hps i x hx⟩⟩

end Go.Proofs.YtphoihkbdogkhaaDoor.Bn.Tw

/- The walk of law 12's Great. -/
namespace Go.Proofs.YtphoihkbdogkhaaDoor.Bn.Tw
open Go Go.RowKit Go.Proofs.YtphoihkbdogkhaaDoor.Tb
set_option linter.unusedVariables false

/-- Acts that lie in memory, by their keys and values. -/
def SeesK (w : World) (v : Value) (l : List (ByteArray × ByteArray)) : Prop :=
  (l = [] ∧ ∃ a cap, v = .slice a 0 cap) ∨ ∃ b off cap, v = .slice (some ⟨b, off, none⟩) l.length cap ∧ b < w.heap.size ∧ ∀ i x, l[i]? = some x → (x.1.size ≤ maxLen ∧ x.2.size ≤ maxLen) ∧
    w.cell? ⟨b, off + i * 5 + 1, none⟩ = some (.string x.1) ∧ w.cell? ⟨b, off + i * 5 + 2, none⟩ = some (.string x.2)
theorem SeesK.len {w : World} {a : Option Addr} {n cap : Nat} {l : List (ByteArray × ByteArray)} (h : SeesK w (.slice a n cap) l) : l.length = n := by
  rcases h with ⟨rfl, a, cap, e⟩ | ⟨b, off, cap, e, _⟩
  · simp only [Value.slice.injEq] at e
    exact e.2.1.symm
  · simp only [Value.slice.injEq] at e
    exact e.2.1.symm
theorem SeesK.get {w : World} {ao : Option Addr} {n cap : Nat} {l : List (ByteArray × ByteArray)} (h : SeesK w (.slice ao n cap) l) {i : Nat} {x : ByteArray × ByteArray} (hi : l[i]? = some x) : ∃ b off, ao = some ⟨b, off, none⟩ ∧ b < w.heap.size ∧ (x.1.size ≤ maxLen ∧ x.2.size ≤ maxLen) ∧
    w.cell? ⟨b, off + i * 5 + 1, none⟩ = some (.string x.1) ∧ w.cell? ⟨b, off + i * 5 + 2, none⟩ = some (.string x.2) := by
  rcases h with ⟨rfl, _⟩ | ⟨b, off, c, e, hb, hc⟩
  · simp at hi
  · simp only [Value.slice.injEq] at e
    obtain ⟨rfl, rfl, rfl⟩ := e
    obtain ⟨h1, h2⟩ := hc i x hi
    exact ⟨b, off, rfl, hb, h1, h2⟩

/-- How many bytes acts have in all. -/
def sizK : List (ByteArray × ByteArray) → Nat
  | [] => 0
  | x :: l => x.1.size + x.2.size + sizK l
theorem sizK_take : ∀ (l : List (ByteArray × ByteArray)) (k : Nat), sizK (l.take k) ≤ sizK l
  | [], k => by simp [sizK]
  | x :: l, 0 => by simp [sizK]
  | x :: l, k + 1 => by have := sizK_take l k; simp only [List.take_succ_cons, sizK]; omega
theorem sizK_snoc : ∀ (l : List (ByteArray × ByteArray)) (k : Nat) (x : ByteArray × ByteArray), l[k]? = some x → sizK (l.take (k + 1)) = sizK (l.take k) + (x.1.size + x.2.size)
  | [], k, x, h => by simp at h
  | y :: l, 0, x, h => by
    simp only [List.getElem?_cons_zero, Option.some.injEq] at h
    subst h
    simp [sizK]
  | y :: l, k + 1, x, h => by
    have := sizK_snoc l k x (by simpa using h)
    rw [List.take_succ_cons, List.take_succ_cons, sizK, sizK, this]
    omega
def greatK (l : List (ByteArray × ByteArray)) : Bool := decide (100 < l.length) || decide (8000 < sizK l)

set_option maxHeartbeats 2000000 in
set_option maxRecDepth 100000 in
theorem great_k (a : Option Addr) (n c : Nat) (l : List (ByteArray × ByteArray)) (w : World) (h : SeesK w (.slice a n c) l) :
    Calls Tryd.prog 18 #[.slice a n c] w (Gives (.bool (greatK l)) w) := by
  have hl := h.len
  by_cases h120 : (100 : Int) < n
  · have e : greatK l = true := by unfold greatK; rw [decide_eq_true (by rw [hl]; omega)]; rfl
    rw [e]
    clear h hl e
    go_enter Tryd.func18, Tryd.ntmps18
    go_wp2_with fail
    go_ret
    exact ⟨rfl, Below.refl _ _⟩
  · have HG : Hid (greatK l = decide (8000 < sizK l)) := Lib.hid (by unfold greatK; rw [decide_eq_false (by rw [hl]; omega)]; rfl)
    have HH := Lib.hid h
    have HL := Lib.hid hl
    have hn : n ≤ 100 := by omega
    clear h hl
    go_enter Tryd.func18, Tryd.ntmps18
    go_wp2_with fail
    go_loopw [3, 4] (fun z i wr => ∃ (k q : Nat), k ≤ n ∧ z = .int .i64 q ∧ i = .int .i64 k ∧ Hid (q = sizK (l.take k)) ∧ q ≤ 16000 * k ∧ Hid (Below w.heap.size w wr)) (fun _ i _ => n - (intOf i).toNat)
    case atStart => exact ⟨0, 0, Nat.zero_le _, rfl, rfl, Lib.hid (by simp [sizK]), by omega, Lib.hid (Below.refl _ _)⟩
    case round =>
      obtain ⟨k, q, hk, rfl, rfl, HQ, hq, HB⟩ := hrel
      by_cases hlt : k < n
      · obtain ⟨x, hx⟩ : ∃ x, l[k]? = some x := ⟨_, List.getElem?_eq_getElem (by rw [HL.out]; exact hlt)⟩
        obtain ⟨b, off, rfl, hb, ⟨hz1, hz2⟩, k1, k2⟩ := HH.out.get hx
        have c1 : wr.cell? ⟨b, off + k * 5 + 1, none⟩ = some (.string x.1) := (HB.out.cell (p := ⟨b, _, none⟩) hb).trans k1
        have c2 : wr.cell? ⟨b, off + k * 5 + 2, none⟩ = some (.string x.2) := (HB.out.cell (p := ⟨b, _, none⟩) hb).trans k2
        have hkn : (k : Int) < n := by omega
        have HS := Lib.hid (sizK_snoc l k x hx)
        have HST := Lib.hid (sizK_take l (k + 1))
        obtain ⟨key, val⟩ := x
        dsimp only at *
        clear k1 k2 hx
        by_cases hk1 : (8000 : Int) < key.size
        · have HT : Hid (greatK l = true) := Lib.hid (by rw [HG.out]; exact decide_eq_true (by have := HS.out; have := HST.out; omega))
          clear hz1 hz2
          go_wp2_with fail
          go_ret
          rw [HT.out]
          exact ⟨rfl, HB.out⟩
        · by_cases hv1 : (8000 : Int) < val.size
          · have HT : Hid (greatK l = true) := Lib.hid (by rw [HG.out]; exact decide_eq_true (by have := HS.out; have := HST.out; omega))
            clear hz1 hz2
            go_wp2_with fail
            go_ret
            rw [HT.out]
            exact ⟨rfl, HB.out⟩
          · clear hz1 hz2
            go_wp2_with fail
            go_region
            go_wp2_with fail
            go_roundw
            case rel => exact ⟨k + 1, q + key.size + val.size, by omega, by go_num, by go_num, Lib.hid (by rw [HS.out, ← HQ.out]; omega), by omega, Lib.hid HB.out.drew⟩
            case measure => simp [intOf]; omega
      · obtain rfl : k = n := by omega
        have HT : Hid (greatK l = decide (8000 < q)) := Lib.hid (by rw [HG.out, HQ.out, List.take_of_length_le (Nat.le_of_eq HL.out)])
        by_cases hs : (8000 : Int) < q
        · have HT2 : Hid (greatK l = true) := Lib.hid (by rw [HT.out]; exact decide_eq_true (by omega))
          go_wp2_with fail
          go_ret
          rw [HT2.out]
          exact ⟨rfl, HB.out⟩
        · have HT2 : Hid (greatK l = false) := Lib.hid (by rw [HT.out]; exact decide_eq_false (by omega))
          go_wp2_with fail
          go_ret
          rw [HT2.out]
          exact ⟨rfl, HB.out⟩
end Go.Proofs.YtphoihkbdogkhaaDoor.Bn.Tw

/- The walk of law 12's GreatEntries. -/
namespace Go.Proofs.YtphoihkbdogkhaaDoor.Bn.Tw
open Go Go.RowKit Go.Proofs.YtphoihkbdogkhaaDoor.Tb
set_option linter.unusedVariables false
set_option maxRecDepth 100000

abbrev kvE (e : Ent) : ByteArray × ByteArray := (e.key, e.val)
abbrev actCells (e : Ent) : List Value := .int .u8 0 :: entCells e
abbrev actRow (l : List Ent) : List Value := l.flatMap actCells
theorem actRow_snoc (l : List Ent) (e : Ent) : actRow (l ++ [e]) = actRow l ++ actCells e := by simp [actRow]
theorem actRow_at : ∀ (l : List Ent) (i : Nat) (e : Ent), l[i]? = some e → (actRow l)[i * 5 + 1]? = some (.string e.key) ∧ (actRow l)[i * 5 + 2]? = some (.string e.val)
  | [], _, _, h => by simp at h
  | x :: l, 0, e, h => by
    simp only [List.getElem?_cons_zero, Option.some.injEq] at h
    subst h
    exact ⟨rfl, rfl⟩
  | x :: l, i + 1, e, h => by
    have h1 := actRow_at l i e (by simpa using h)
    have e1 : (i + 1) * 5 + 1 = i * 5 + 1 + (actCells x).length := by simp; omega
    have e2 : (i + 1) * 5 + 2 = i * 5 + 2 + (actCells x).length := by simp; omega
    unfold actRow
    rw [List.flatMap_cons, e1, e2, List.getElem?_append_right (by omega), List.getElem?_append_right (by omega), Nat.add_sub_cancel, Nat.add_sub_cancel]
    exact h1
theorem seesK_own {w : World} {base : Nat} {v : Value} {l : List Ent} (h : w.ownsRow base 52 5 v l.length (actRow l)) (hz : ∀ e ∈ l, e.key.size ≤ maxLen ∧ e.val.size ≤ maxLen) : SeesK w v (l.map kvE) := by
  by_cases h0 : l = []
  · subst h0
    obtain ⟨a, c, e⟩ := Bo.row_any h
    exact Or.inl ⟨rfl, a, c, e⟩
  · obtain ⟨g, cap, e, _, hg, _, _, hc⟩ := Bo.row_shape h (List.length_pos_iff.2 h0)
    refine Or.inr ⟨g, 0, cap, by rw [List.length_map]; exact e, hg, fun i x hx => ?_⟩
    rw [List.getElem?_map, Option.map_eq_some_iff] at hx
    obtain ⟨y, hy, rfl⟩ := hx
    obtain ⟨c1, c2⟩ := actRow_at l i y hy
    refine ⟨hz y (List.mem_of_getElem? hy), ?_, ?_⟩
    · rw [Nat.zero_add]; exact hc _ _ c1
    · rw [Nat.zero_add]; exact hc _ _ c2
def greatE (l : List Ent) : Bool := greatK (l.map kvE)
theorem info_act : (Tryd.prog.info? 52).map (fun i => (i.zero, i.size, i.bytes)) = some (some (.agg #[.int .u8 0, .string ⟨#[]⟩, .string ⟨#[]⟩, .int .u64 0, .bool false]), 5, 56) := by kernel_rfl

set_option maxHeartbeats 2000000 in
theorem greatEntries_any (a : Option Addr) (n c : Nat) (l : List Ent) (w : World) (h : SeesI w (.slice a n c) l) :
    Calls Tryd.prog 22 #[.slice a n c] w (Gives (.bool (greatE l)) w) := by
  obtain ⟨i1, hi, hz0, hz1, hz2⟩ := info_parts info_act
  have hl := h.len
  have HH := Lib.hid h
  have HL := Lib.hid hl
  obtain ⟨X, hX⟩ : ∃ X, X = greatE l := ⟨_, rfl⟩
  have HX := Lib.hid hX
  rw [← hX]
  clear h hl hX
  go_enter Tryd.func22, Tryd.ntmps22
  go_wp2_with fail
  go_loopw [3, 4] (fun u i wr => ∃ (k : Nat), i = .int .i64 (k : Int) ∧ k ≤ n ∧ k ≤ 101 ∧ Hid (wr.ownsRow w.heap.size 52 5 u k (actRow (l.take k)) ∧ Below w.heap.size w wr)) (fun _ i _ => n - (intOf i).toNat)
  case atStart => exact ⟨0, rfl, Nat.zero_le _, by omega, Lib.hid ⟨World.ownsRow_nil .., Below.refl _ _⟩⟩
  case round =>
    obtain ⟨k, rfl, hkn, hk9, HI⟩ := hrel
    by_cases hlt : k < n
    · have hkn' : (k : Int) < n := by omega
      by_cases h100 : (100 : Int) < k
      · have HT : Hid (X = true) := Lib.hid (by rw [HX.out]; unfold greatE greatK; rw [decide_eq_true (by rw [List.length_map, HL.out]; omega)]; rfl)
        go_wp2_with fail
        go_ret
        rw [HT.out]
        exact ⟨rfl, HI.out.2⟩
      · have hk10 : k ≤ 100 := by omega
        obtain ⟨e, he⟩ : ∃ e, l[k]? = some e := ⟨_, List.getElem?_eq_getElem (by rw [HL.out]; exact hlt)⟩
        obtain ⟨b, off, rfl, hb, hz, k0, k1, k2, k3⟩ := HH.out.get he
        have HBW := Lib.hid HI.out.2
        have c0 := (HBW.out.cell (p := ⟨b, _, none⟩) hb).trans k0
        have c1 := (HBW.out.cell (p := ⟨b, _, none⟩) hb).trans k1
        have c2 := (HBW.out.cell (p := ⟨b, _, none⟩) hb).trans k2
        have c3 := (HBW.out.cell (p := ⟨b, _, none⟩) hb).trans k3
        have HTK : Hid (l.take (k + 1) = l.take k ++ [e]) := Lib.hid (by rw [List.take_add_one, he]; rfl)
        obtain ⟨EK, EV, EQ, EG⟩ := e
        dsimp only at *
        have hraw := HI.out.1
        clear k0 k1 k2 k3 he hz hb
        obtain ⟨ua, uc, hu⟩ := Bo.row_any hraw
        subst hu
        clear HI
        go_wp2_with (at_builtin; go_must (refine wpList_append_own _ rfl _ _ 46 rfl w.heap.size 52 i1 _ 5 56 Tryd.underlying46 hi hz0 hz1 hz2 rfl (by decide) _ _ _ rfl (hraw.alloc _) ⟨wr.heap.size, 0, none⟩ 1 1 [.int .u8 0, .string EK, .string EV, .int .u64 (EQ : Int), .bool EG] rfl rfl (World.news_of_block (cs := #[.int .u8 0, .string EK, .string EV, .int .u64 (EQ : Int), .bool EG]) (t := 52) (fr := (0, 0)) (heap_alloc_new wr _)) ?c2 ?c3 ?c4 ?c5 ?_))
        case c2 => exact ⟨rfl, rfl, rfl, rfl, rfl⟩
        case c3 => unfold maxLen; omega
        case c4 => omega
        case c5 => have := HBW.out.size; simp; omega
        intro v3 w3 hown3 hgrow3 _
        have R3 : w3.ownsRow w.heap.size 52 5 v3 (k + 1) (actRow (l.take (k + 1))) ∧ Below w.heap.size w w3 := by
          refine ⟨by rw [HTK.out, actRow_snoc]; exact hown3, ?_⟩
          exact (HBW.out.alloc HBW.out.size _).grown hgrow3 (by have := HBW.out.size; simp; omega) (fun j hj => (World.ownsRow.lt hraw j hj).1)
        have HR3 := Lib.hid R3
        clear R3 hown3 hgrow3 hraw
        go_wp2_with fail
        go_roundw
        case rel => exact ⟨k + 1, by go_num, by omega, by omega, Lib.hid HR3.out⟩
        case measure => simp [intOf]; omega
    · obtain rfl : k = n := by omega
      have HBW := Lib.hid HI.out.2
      obtain ⟨ua, uc, hu⟩ := Bo.row_any HI.out.1
      subst hu
      have HG := Lib.hid (great_k ua k uc (l.map kvE) wr (by
        have h1 := HI.out.1
        rw [List.take_of_length_le (Nat.le_of_eq HL.out)] at h1
        refine seesK_own (by rw [HL.out]; exact h1) (fun e he => ?_)
        obtain ⟨i, hi⟩ := List.getElem?_of_mem he
        obtain ⟨_, _, _, _, hz, _⟩ := HH.out.get hi
        exact hz.2))
      go_wp2_with fail
      refine HG.out.mono ?_
      rintro e w1 ⟨rfl, hb1⟩
      go_wp2_with fail
      go_ret
      rw [HX.out]
      exact ⟨rfl, HBW.out.trans (hb1.mono HBW.out.size)⟩
end Go.Proofs.YtphoihkbdogkhaaDoor.Bn.Tw

/- The entries that a builder takes, plainly. -/
namespace Go.Proofs.YtphoihkbdogkhaaDoor.Bn.Tw
open Go Go.RowKit Go.Proofs.YtphoihkbdogkhaaDoor.Tb
set_option linter.unusedVariables false
set_option maxRecDepth 100000

/-- Those that are taken. -/
def took : TS → List Ent → List Ent
  | _, [] => []
  | s, e :: l => if errE s e = 0 then e :: took (addS s e) l else took s l
theorem took_good : ∀ (l : List Ent) (s : TS), goodT s (took s l) = true
  | [], s => rfl
  | e :: l, s => by
    rw [took]
    split
    · rename_i h
      rw [goodT, decide_eq_true h, took_good l]; rfl
    · exact took_good l s
theorem took_snoc : ∀ (l : List Ent) (s : TS) (e : Ent), took s (l ++ [e]) = took s l ++ if errE (runT s (took s l)) e = 0 then [e] else []
  | [], s, e => by
    rw [List.nil_append, took, took, took]
    split
    · rename_i h; rw [List.nil_append, if_pos (by exact h)]
    · rename_i h; rw [List.nil_append, if_neg (by exact h), took]
  | a :: l, s, e => by
    rw [List.cons_append, took, took]
    split
    · rw [took_snoc l, List.cons_append]
      rfl
    · exact took_snoc l s e
theorem took_sub : ∀ (l : List Ent) (s : TS) (e : Ent), e ∈ took s l → e ∈ l
  | [], s, e, h => by simp [took] at h
  | a :: l, s, e, h => by
    rw [took] at h
    split at h
    · rcases List.mem_cons.1 h with h | h
      · simp [h]
      · simp [took_sub l _ e h]
    · simp [took_sub l _ e h]
theorem took_len : ∀ (l : List Ent) (s : TS), (took s l).length ≤ l.length
  | [], s => by simp [took]
  | a :: l, s => by
    rw [took]
    split
    · have := took_len l (addS s a); simp; omega
    · have := took_len l s; simp; omega
/-- Of none that is refused anything comes. -/
theorem addS_no {s : TS} {e : Ent} (h : errE s e ≠ 0) : addS s e = s := by
  unfold addS
  rw [if_pos h]
theorem piece_no {s : TS} {e : Ent} (h : errE s e ≠ 0) : piece s e = [] := by
  have h1 := told_step s e
  rw [addS_no h] at h1
  exact List.self_eq_append_right.1 h1
/-- What those taken make is a table of them, if there are any. -/
theorem took_inv (n : Nat) (lev : Int) (l : List Ent) : Inv (runT (TS.new n lev) (took (TS.new n lev) l)) (took (TS.new n lev) l) ∧ Tb.Good (took (TS.new n lev) l) := by
  have h := runT_inv (took (TS.new n lev) l) (inv_new n lev) good_nil (took_good l _)
  rwa [List.nil_append] at h
end Go.Proofs.YtphoihkbdogkhaaDoor.Bn.Tw

/- The walk of law 12's taken. -/
namespace Go.Proofs.YtphoihkbdogkhaaDoor.Bn.Tw
open Go Go.RowKit Go.Proofs.YtphoihkbdogkhaaDoor.Tb
open Go.Proofs.YtphoihkbdogkhaaDoor.Bn.Bo (Turns cell_of)
set_option linter.unusedVariables false
set_option maxRecDepth 100000
/-- The builder, and the entries that it took, beside the box of what will be told. -/
structure Tk (w wr : World) (L : TL) (s : TS) (v : Value) (l : List Ent) : Prop where
  h : BuiltT wr (w.heap.size + 1) L s
  b : L.b = w.heap.size + 1
  o : OwnsE wr (w.heap.size + 1) v l
  bel : Below (w.heap.size + 1) (w.alloc tabX) wr
theorem row_apart {w : World} {base : Nat} {L : TL} {s : TS} {v : Value} {n : Nat} {xs : List Value} (h : BuiltT w base L s) (hr : w.ownsRow base 33 4 v n xs) : ∀ k, v.ownBlock = some k → ¬ OwnT L k := by
  intro k hk ho
  obtain ⟨cs, hc⟩ := Bo.ownsRow_obj hr hk
  rcases ho with rfl | ho | (ho | ho) | (ho | ho) | ho
  · exact Bo.obj_cells_ne h.box hc (by decide) rfl
  · obtain ⟨c2, h2⟩ := Bo.ownsRow_obj h.keys ho; exact Bo.obj_cells_ne h2 hc (by decide) rfl
  · obtain ⟨c2, h2⟩ := Bo.ownsRow_obj h.dr ho; exact Bo.obj_cells_ne h2 hc (by decide) rfl
  · obtain ⟨c2, h2⟩ := Bo.ownsRow_obj h.df ho; exact Bo.obj_cells_ne h2 hc (by decide) rfl
  · obtain ⟨c2, h2⟩ := Bo.ownsRow_obj h.ir ho; exact Bo.obj_cells_ne h2 hc (by decide) rfl
  · obtain ⟨c2, h2⟩ := Bo.ownsRow_obj h.if_ ho; exact Bo.obj_cells_ne h2 hc (by decide) rfl
  · obtain ⟨c2, h2⟩ := Bo.ownsRow_obj h.told ho; exact Bo.obj_cells_ne h2 hc (by decide) rfl
/-- The row that was there is there when the builder has gone on. -/
theorem Tk.kept {w wr w2 : World} {L : TL} {s s' : TS} {v : Value} {l : List Ent} (h : Tk w wr L s v l) (hg : GoesT (w.heap.size + 1) L wr s' w2) : OwnsE w2 (w.heap.size + 1) v l := by
  obtain ⟨L', e1, hb2, ht, ho⟩ := hg
  exact Bo.ownsRow_frame h.o fun k hk => ht.block k (Bo.ownsRow_lt h.o hk) (row_apart h.h h.o k hk)
theorem Tk.goes {w wr w2 : World} {L : TL} {s s' : TS} {v : Value} {l : List Ent} (h : Tk w wr L s v l) (hg : GoesT (w.heap.size + 1) L wr s' w2) : ∃ L', Tk w w2 L' s' v l := by
  have hk := h.kept hg
  have hbl := GoesT.to_below h.h hg
  obtain ⟨L', e1, hb2, ht, ho⟩ := hg
  exact ⟨L', hb2, e1.trans h.b, hk, h.bel.trans hbl⟩
/-- The row has grown. -/
theorem Tk.grew {w w2 w3 : World} {L : TL} {s : TS} {v v3 : Value} {l : List Ent} {e : Ent} {o : Obj} (h : Tk w w2 L s v l) (hown : w3.ownsRow (w.heap.size + 1) 33 4 v3 (l.length + 1) (rowCells l ++ entCells e)) (hgrow : (w2.alloc o).grownBy w3 v.ownBlock) : Tk w w3 L s v3 (l ++ [e]) := by
  have hb : Below w2.heap.size w2 (w2.alloc o) := box_below _ _
  have h1 := h.h.below hb
  have h2 : (w2.alloc o).ownsRow (w.heap.size + 1) 33 4 v l.length (rowCells l) := OwnsE.below h.o hb
  refine ⟨h1.frame fun k hk => hgrow.block k (h1.own_lt hk) (fun e2 => row_apart h1 h2 k e2.symm hk), h.b, OwnsE.snoc hown, ?_⟩
  exact (h.bel.trans (hb.mono (by have := h.bel.size; rw [World.size_alloc] at this; omega))).grown hgrow (by have := h.bel.size; simp at *; omega) (fun j hj => (World.ownsRow.lt h2 j hj).1)
theorem Tk.below {w wr : World} {L : TL} {s : TS} {v : Value} {l : List Ent} (h : Tk w wr L s v l) : Below w.heap.size w wr := ((Below.refl _ _).alloc (Nat.le_refl _) _).trans (h.bel.mono (Nat.le_succ _))
/-- What is told of some entries' table. -/
def toldT (l : List Ent) : Value := if l = [] then tab0 else tabV (runT (TS.new 3 1) l) (runT (TS.new 3 1) l).t5.length ((runT (TS.new 3 1) l).keys.headD ⟨#[]⟩) ((runT (TS.new 3 1) l).keys.getLastD ⟨#[]⟩)
def TkBack (w : World) (l : List Ent) (x : Ending) (w' : World) : Prop :=
  ∃ v, x = .returned (.tuple #[v, .string (bmk (if l = [] then [] else whole l)), toldT l, .int .i64 (if l = [] then 9 else 0)]) ∧ OwnsE w' w.heap.size v l ∧ Below w.heap.size w w'
theorem Tk.boxed {w wr w2 : World} {L : TL} {s : TS} {v : Value} {l : List Ent} (h : Tk w wr L s v l) (hb : Below wr.heap.size wr w2) : w2.heap[w.heap.size]? = some tabX ∧ w.heap.size < w2.heap.size := by
  have h1 := h.bel.size
  rw [World.size_alloc] at h1
  have h2 := hb.size
  refine ⟨?_, by omega⟩
  rw [hb.block _ (by omega), h.bel.block _ (Nat.lt_succ_self _), heap_alloc_new]
theorem turns8 (w2 : World) (b : Nat) (x0 x1 x2 x3 x4 x5 x6 x7 : Value) (o : Obj) : Turns (fun k => k = b) w2 (((((((((w2.setCell ⟨b, 0, none⟩ x0).setCell ⟨b, 1, none⟩ x1).setCell ⟨b, 2, none⟩ x2).setCell ⟨b, 3, none⟩ x3).setCell ⟨b, 4, none⟩ x4).setCell ⟨b, 5, none⟩ x5).setCell ⟨b, 6, none⟩ x6).setCell ⟨b, 7, none⟩ x7).alloc o).drew := by
  have h0 : Turns (fun k => k = b) w2 (w2.setCell ⟨b, 0, none⟩ x0) := Turns.of_setCell _ _ _ rfl
  have h1 := h0.set ⟨b, 1, none⟩ x1 rfl
  have h2 := h1.set ⟨b, 2, none⟩ x2 rfl
  have h3 := h2.set ⟨b, 3, none⟩ x3 rfl
  have h4 := h3.set ⟨b, 4, none⟩ x4 rfl
  have h5 := h4.set ⟨b, 5, none⟩ x5 rfl
  have h6 := h5.set ⟨b, 6, none⟩ x6 rfl
  have h7 := h6.set ⟨b, 7, none⟩ x7 rfl
  exact (h7.alloc o).drew
/-- A box of eight cells. -/
def Bx (w : World) (b : Nat) (t : TypeId) (y0 y1 y2 y3 y4 y5 y6 y7 : Value) : Prop := w.heap[b]? = some (.cells #[y0, y1, y2, y3, y4, y5, y6, y7] t (0, 0))
theorem Bx.set0 {w : World} {b : Nat} {t : TypeId} {y0 y1 y2 y3 y4 y5 y6 y7 : Value} (h : Bx w b t y0 y1 y2 y3 y4 y5 y6 y7) (x : Value) : Bx (w.setCell ⟨b, 0, none⟩ x) b t x y1 y2 y3 y4 y5 y6 y7 := heap_setCell_same w b 0 _ t x h
theorem Bx.set1 {w : World} {b : Nat} {t : TypeId} {y0 y1 y2 y3 y4 y5 y6 y7 : Value} (h : Bx w b t y0 y1 y2 y3 y4 y5 y6 y7) (x : Value) : Bx (w.setCell ⟨b, 1, none⟩ x) b t y0 x y2 y3 y4 y5 y6 y7 := heap_setCell_same w b 1 _ t x h
theorem Bx.set2 {w : World} {b : Nat} {t : TypeId} {y0 y1 y2 y3 y4 y5 y6 y7 : Value} (h : Bx w b t y0 y1 y2 y3 y4 y5 y6 y7) (x : Value) : Bx (w.setCell ⟨b, 2, none⟩ x) b t y0 y1 x y3 y4 y5 y6 y7 := heap_setCell_same w b 2 _ t x h
theorem Bx.set3 {w : World} {b : Nat} {t : TypeId} {y0 y1 y2 y3 y4 y5 y6 y7 : Value} (h : Bx w b t y0 y1 y2 y3 y4 y5 y6 y7) (x : Value) : Bx (w.setCell ⟨b, 3, none⟩ x) b t y0 y1 y2 x y4 y5 y6 y7 := heap_setCell_same w b 3 _ t x h
theorem Bx.set4 {w : World} {b : Nat} {t : TypeId} {y0 y1 y2 y3 y4 y5 y6 y7 : Value} (h : Bx w b t y0 y1 y2 y3 y4 y5 y6 y7) (x : Value) : Bx (w.setCell ⟨b, 4, none⟩ x) b t y0 y1 y2 y3 x y5 y6 y7 := heap_setCell_same w b 4 _ t x h
theorem Bx.set5 {w : World} {b : Nat} {t : TypeId} {y0 y1 y2 y3 y4 y5 y6 y7 : Value} (h : Bx w b t y0 y1 y2 y3 y4 y5 y6 y7) (x : Value) : Bx (w.setCell ⟨b, 5, none⟩ x) b t y0 y1 y2 y3 y4 x y6 y7 := heap_setCell_same w b 5 _ t x h
theorem Bx.set6 {w : World} {b : Nat} {t : TypeId} {y0 y1 y2 y3 y4 y5 y6 y7 : Value} (h : Bx w b t y0 y1 y2 y3 y4 y5 y6 y7) (x : Value) : Bx (w.setCell ⟨b, 6, none⟩ x) b t y0 y1 y2 y3 y4 y5 x y7 := heap_setCell_same w b 6 _ t x h
theorem Bx.set7 {w : World} {b : Nat} {t : TypeId} {y0 y1 y2 y3 y4 y5 y6 y7 : Value} (h : Bx w b t y0 y1 y2 y3 y4 y5 y6 y7) (x : Value) : Bx (w.setCell ⟨b, 7, none⟩ x) b t y0 y1 y2 y3 y4 y5 y6 x := heap_setCell_same w b 7 _ t x h
theorem fill8 {w2 : World} {b : Nat} {t : TypeId} {y0 y1 y2 y3 y4 y5 y6 y7 : Value} (h : Bx w2 b t y0 y1 y2 y3 y4 y5 y6 y7) (x0 x1 x2 x3 x4 x5 x6 x7 : Value) (o : Obj) :
    ∃ wF, wF = (((((((((w2.setCell ⟨b, 0, none⟩ x0).setCell ⟨b, 1, none⟩ x1).setCell ⟨b, 2, none⟩ x2).setCell ⟨b, 3, none⟩ x3).setCell ⟨b, 4, none⟩ x4).setCell ⟨b, 5, none⟩ x5).setCell ⟨b, 6, none⟩ x6).setCell ⟨b, 7, none⟩ x7).alloc o).drew ∧ Bx wF b t x0 x1 x2 x3 x4 x5 x6 x7 ∧ Turns (fun k => k = b) w2 wF := by
  have h0 := h.set0 x0
  have h1 := h0.set1 x1
  have h2 := h1.set2 x2
  have h3 := h2.set3 x3
  have h4 := h3.set4 x4
  have h5 := h4.set5 x5
  have h6 := h5.set6 x6
  have h7 := h6.set7 x7
  have ht := turns8 w2 b x0 x1 x2 x3 x4 x5 x6 x7 o
  generalize ((((((((w2.setCell ⟨b, 0, none⟩ x0).setCell ⟨b, 1, none⟩ x1).setCell ⟨b, 2, none⟩ x2).setCell ⟨b, 3, none⟩ x3).setCell ⟨b, 4, none⟩ x4).setCell ⟨b, 5, none⟩ x5).setCell ⟨b, 6, none⟩ x6).setCell ⟨b, 7, none⟩ x7) = V at *
  refine ⟨_, rfl, ?_, ht⟩
  exact (RowKit.Below.heap_alloc V o b (Bo.heap_lt h7)).trans h7
set_option maxHeartbeats 4000000 in
theorem taken_any {w : World} {a : Option Addr} {n c : Nat} {l : List Ent} (h : SeesI w (.slice a n c) l) (hl : n ≤ 100) (hT : Tab w) :
    Calls Tryd.prog 23 #[.slice a n c] w (TkBack w (took (TS.new 3 1) l)) := by
  obtain ⟨i1, hi, hz0, hz1, hz2⟩ := info_parts info_ent
  have HH := Lib.hid h; have HLN := Lib.hid h.len; have HT := Lib.hid hT
  have HN := Lib.hid (new_any 3 1 (w.alloc tabX))
  clear h hT
  go_enter Tryd.func23, Tryd.ntmps23
  go_wp2_with fail
  refine HN.out.mono ?_
  rintro e w1 ⟨L1, hb1, rfl, hbt, hbel⟩
  rw [hb1]
  have HI1 : Hid (Tk w w1 L1 (TS.new 3 1) (.slice none 0 0) []) := Lib.hid (by
    rw [World.size_alloc] at hbt hb1 hbel
    exact ⟨hbt, hb1, OwnsE.nil _ _, hbel⟩)
  clear hbt hbel hb1 HN
  rw [World.size_alloc]
  go_wp2_with fail
  go_loopw [7, 8, 9] (fun u s i wr => ∃ k : Nat, k ≤ n ∧ i = .int .i64 (k : Int) ∧ s = .string (bmk (runT (TS.new 3 1) (took (TS.new 3 1) (l.take k))).told) ∧ Hid (∃ L, Tk w wr L (runT (TS.new 3 1) (took (TS.new 3 1) (l.take k))) u (took (TS.new 3 1) (l.take k)))) (fun _ _ i _ => n - (intOf i).toNat)
  case atStart => exact ⟨0, by omega, rfl, rfl, Lib.hid ⟨L1, HI1.out⟩⟩
  case round =>
    obtain ⟨k, hk, rfl, rfl, HI⟩ := hrel
    clear HI1
    obtain ⟨L, hbs⟩ := HI.out
    obtain ⟨hinv, hgood⟩ := took_inv 3 1 (l.take k)
    obtain ⟨A, hA⟩ : ∃ A, A = took (TS.new 3 1) (l.take k) := ⟨_, rfl⟩
    rw [← hA] at hinv hgood hbs ⊢
    have hlk : A.length ≤ k := by rw [hA]; have h1 := took_len (l.take k) (TS.new 3 1); rw [List.length_take] at h1; omega
    have hfit := fits_inv hinv hgood (n := 100000) (by omega)
    have HINV := Lib.hid hinv; have HGOOD := Lib.hid hgood; have HFIT := Lib.hid hfit; have HLK := Lib.hid hlk
    have HBS := Lib.hid hbs
    obtain ⟨ua, uc, hu⟩ := Bo.row_any hbs.o
    subst hu
    obtain ⟨S, hS⟩ : ∃ S, S = runT (TS.new 3 1) A := ⟨_, rfl⟩
    rw [← hS] at HBS HINV HFIT ⊢
    have HSS := Lib.hid hS; have HAA := Lib.hid hA
    clear hbs hinv hgood hlk hfit hS HI hA
    by_cases hkn : k < n
    · have hkn' : (k : Int) < n := by omega
      obtain ⟨e, he⟩ : ∃ e, l[k]? = some e := ⟨_, List.getElem?_eq_getElem (by rw [HLN.out]; exact hkn)⟩
      obtain ⟨g, off, rfl, hg, hz, g0, g1, g2, g3⟩ := HH.out.get he
      have hbw : Below w.heap.size w wr := ((Below.refl _ _).alloc (Nat.le_refl _) _).trans (HBS.out.bel.mono (Nat.le_succ _))
      have HBW := Lib.hid hbw
      have c0 := (hbw.cell (p := ⟨g, _, none⟩) hg).trans g0
      have c1 := (hbw.cell (p := ⟨g, _, none⟩) hg).trans g1
      have c2 := (hbw.cell (p := ⟨g, _, none⟩) hg).trans g2
      have c3 := (hbw.cell (p := ⟨g, _, none⟩) hg).trans g3
      have HTK : Hid (l.take (k + 1) = l.take k ++ [e]) := Lib.hid (by rw [List.take_add_one, he]; rfl)
      have HADD : Hid (∀ W, Below wr.heap.size wr W → Calls Tryd.prog 10 #[.pointer (some ⟨w.heap.size + 1, 0, none⟩), enV e] W (AddV (w.heap.size + 1) L W S e)) := Lib.hid (fun W hW => by
        have := add_any (HBS.out.h.below hW) e hz.1 HFIT.out
        rwa [HBS.out.b] at this)
      obtain ⟨EK, EV, EQ, EG⟩ := e
      dsimp only [enV] at HADD
      dsimp only at c0 c1 c2 c3
      have HC := Lib.hid (fun W (hW : Below w.heap.size w W) => (⟨(hW.cell (p := ⟨g, _, none⟩) hg).trans g0, (hW.cell (p := ⟨g, _, none⟩) hg).trans g1, (hW.cell (p := ⟨g, _, none⟩) hg).trans g2, (hW.cell (p := ⟨g, _, none⟩) hg).trans g3⟩ : W.cell? ⟨g, off + k * 4, none⟩ = some (.string EK) ∧ W.cell? ⟨g, off + k * 4 + 1, none⟩ = some (.string EV) ∧ W.cell? ⟨g, off + k * 4 + 2, none⟩ = some (.int .u64 (EQ : Int)) ∧ W.cell? ⟨g, off + k * 4 + 3, none⟩ = some (.bool EG)))
      clear g0 g1 g2 g3 hg he hbw hz
      go_wp2_with fail
      refine (HADD.out _ (Below.refl _ _)).mono ?_
      rintro x w2 ⟨rfl, hg2⟩
      have HG2 := Lib.hid (HBS.out.goes hg2)
      clear hg2 c0 c1 c2 c3
      obtain ⟨L2, hg2⟩ := HG2.out
      have HT2 := Lib.hid hg2
      clear hg2
      obtain ⟨c0, c1, c2, c3⟩ := HC.out _ HT2.out.below
      have hsz : (bmk S.told).size + (bmk (piece S ⟨EK, EV, EQ, EG⟩)).size ≤ 100000000000 := by
        have h1 := HFIT.out.t
        have h2 := piece_le HFIT.out ⟨EK, EV, EQ, EG⟩
        rw [bmk_size, bmk_size]
        omega
      by_cases hz : errE S ⟨EK, EV, EQ, EG⟩ = 0
      · have HZ := Lib.hid hz
        rw [hz]
        have hraw := HT2.out.o
        have HNT : Hid (took (TS.new 3 1) (l.take (k + 1)) = A ++ [⟨EK, EV, EQ, EG⟩]) := Lib.hid (by rw [HTK.out, took_snoc, ← HAA.out, ← HSS.out, if_pos HZ.out])
        have HAL : Hid (A.length ≤ 100) := Lib.hid (by have := HLK.out; omega)
        have HW : Hid (w.heap.size + 1 ≤ w2.heap.size) := Lib.hid (by have := HT2.out.bel.size; rw [World.size_alloc] at this; exact this)
        have HTD : Hid (bmk S.told ++ bmk (piece S ⟨EK, EV, EQ, EG⟩) = bmk (addS S ⟨EK, EV, EQ, EG⟩).told) := Lib.hid (by rw [told_step]; exact ByteArray.ext (by simp [bmk]))
        clear hz
        go_wp2_with (at_builtin; go_must (refine wpList_append_own _ rfl _ _ 41 rfl (w.heap.size + 1) 33 i1 _ 4 48 Tryd.underlying41 hi hz0 hz1 hz2 rfl (by decide) _ _ _ rfl (OwnsE.below hraw (box_below _ _)) ⟨w2.heap.size, 0, none⟩ 1 1 [.string EK, .string EV, .int .u64 (EQ : Int), .bool EG] rfl rfl (World.news_of_block (cs := #[.string EK, .string EV, .int .u64 (EQ : Int), .bool EG]) (t := 33) (fr := (0, 0)) (heap_alloc_new w2 _)) ?c2 ?c3 ?c4 ?c5 ?_))
        case c2 => intro v hv; simp at hv; rcases hv with hv | hv | hv | hv <;> subst hv <;> rfl
        case c3 => have := HAL.out; unfold maxLen; omega
        case c4 => have := HAL.out; omega
        case c5 => have := HW.out; simp; omega
        intro v3 w3 hown3 hgrow3 _
        have HR3 := Lib.hid (Tk.grew (e := ⟨EK, EV, EQ, EG⟩) HT2.out hown3 hgrow3)
        clear hown3 hgrow3 hraw
        go_wp2_with fail
        go_roundw
        case rel => exact ⟨k + 1, by omega, by go_num, by rw [HTD.out, HNT.out, runT_snoc, ← HSS.out], Lib.hid ⟨_, by rw [HNT.out, runT_snoc, ← HSS.out]; exact HR3.out⟩⟩
        case measure => simp [intOf]; omega
      · have hne : ((errE S ⟨EK, EV, EQ, EG⟩ : Nat) : Int) ≠ 0 := by omega
        have HNT : Hid (took (TS.new 3 1) (l.take (k + 1)) = A) := Lib.hid (by rw [HTK.out, took_snoc, ← HAA.out, ← HSS.out, if_neg hz, List.append_nil])
        have HR3 : Hid (Tk w w2 L2 S (.slice ua A.length uc) A) := Lib.hid (by have h := HT2.out; rwa [addS_no hz] at h)
        have hsz2 : (bmk S.told).size ≤ 100000000000 := by omega
        clear hsz
        rw [piece_no hz, show bmk [] = ⟨#[]⟩ from rfl]
        have HTD : Hid (bmk S.told ++ ⟨#[]⟩ = bmk S.told) := Lib.hid (ByteArray.ext (by simp))
        clear hz c0 c1 c2 c3
        generalize errE S ⟨EK, EV, EQ, EG⟩ = E at *
        go_wp2_with fail
        go_roundw
        case rel => exact ⟨k + 1, by omega, by go_num, by rw [HTD.out, HNT.out, ← HSS.out], Lib.hid ⟨_, by rw [HNT.out, ← HSS.out]; exact HR3.out⟩⟩
        case measure => simp [intOf]; omega
    · obtain rfl : k = n := by omega
      have hkn' : ¬ ((k : Nat) : Int) < k := by omega
      have htk : l.take k = l := List.take_of_length_le (by rw [HLN.out]; exact Nat.le_refl _)
      rw [htk] at HAA
      rw [← HAA.out]
      have HLOW : Hid (∀ W v, OwnsE W (w.heap.size + 1) v A → OwnsE W w.heap.size v A) := Lib.hid (fun W v h => row_low2 (Nat.le_succ _) h)
      by_cases hl0 : A = []
      · have hcnt : S.cnt = 0 := by rw [HINV.out.cnt, hl0]; rfl
        have htold : S.told = [] := by rw [HINV.out.told, hl0]; rfl
        have HFN := Lib.hid (finish_no HBS.out.h (Or.inr hcnt))
        rw [HBS.out.b] at HFN
        have HTO : Hid (toldT A = tab0) := Lib.hid (by unfold toldT; rw [if_pos hl0])
        have HOW := Lib.hid HBS.out.o
        have HA0 := Lib.hid hl0
        have HBE := Lib.hid HBS.out.below
        rw [htold, show bmk [] = ⟨#[]⟩ from rfl]
        clear hcnt htold htk hl0
        go_wp2_with fail
        refine HFN.out.mono ?_
        rintro x w2 ⟨rfl, hb2⟩
        have HB2 := Lib.hid hb2
        clear hb2
        obtain ⟨hbx, hlt2⟩ := HBS.out.boxed HB2.out
        have c0 : w2.cell? ⟨w.heap.size, 0, none⟩ = some (.int .u64 0) := cell_of hbx
        have c1 : w2.cell? ⟨w.heap.size, 1, none⟩ = some (.int .i64 0) := cell_of hbx
        have c2 : w2.cell? ⟨w.heap.size, 2, none⟩ = some (.int .i64 0) := cell_of hbx
        have c3 : w2.cell? ⟨w.heap.size, 3, none⟩ = some (.int .i64 0) := cell_of hbx
        have c4 : w2.cell? ⟨w.heap.size, 4, none⟩ = some (.string ⟨#[]⟩) := cell_of hbx
        have c5 : w2.cell? ⟨w.heap.size, 5, none⟩ = some (.string ⟨#[]⟩) := cell_of hbx
        have c6 : w2.cell? ⟨w.heap.size, 6, none⟩ = some (.int .u64 0) := cell_of hbx
        have c7 : w2.cell? ⟨w.heap.size, 7, none⟩ = some (.int .u64 0) := cell_of hbx
        have f0 := Bo.unfrozen_of hbx 0
        have f1 := Bo.unfrozen_of hbx 1
        have f2 := Bo.unfrozen_of hbx 2
        have f3 := Bo.unfrozen_of hbx 3
        have f4 := Bo.unfrozen_of hbx 4
        have f5 := Bo.unfrozen_of hbx 5
        have f6 := Bo.unfrozen_of hbx 6
        have f7 := Bo.unfrozen_of hbx 7
        have HBX := Lib.hid hbx
        clear hbx
        go_wp2_with fail
        go_region
        go_wp2_with fail
        have HOW2 : Hid (OwnsE w2 (w.heap.size + 1) (.slice ua A.length uc) A) := Lib.hid (OwnsE.below HOW.out HB2.out)
        have HBE2 : Hid (Below w.heap.size w w2) := Lib.hid (HBE.out.trans (HB2.out.mono HBE.out.size))
        obtain ⟨wF, hF, hE, hT⟩ := fill8 (show Bx _ _ _ _ _ _ _ _ _ _ _ from HBX.out) (.int .u64 0) (.int .i64 0) (.int .i64 0) (.int .i64 0) (.string ⟨#[]⟩) (.string ⟨#[]⟩) (.int .u64 0) (.int .u64 0) (.cells #[.int .u64 0, .int .i64 0, .int .i64 0, .int .i64 0, .string ⟨#[]⟩, .string ⟨#[]⟩, .int .u64 0, .int .u64 0] 26)
        rw [← hF]
        clear hF
        have r0 : wF.cell? ⟨w.heap.size, 0, none⟩ = some (.int .u64 0) := cell_of hE
        have r1 : wF.cell? ⟨w.heap.size, 1, none⟩ = some (.int .i64 0) := cell_of hE
        have r2 : wF.cell? ⟨w.heap.size, 2, none⟩ = some (.int .i64 0) := cell_of hE
        have r3 : wF.cell? ⟨w.heap.size, 3, none⟩ = some (.int .i64 0) := cell_of hE
        have r4 : wF.cell? ⟨w.heap.size, 4, none⟩ = some (.string ⟨#[]⟩) := cell_of hE
        have r5 : wF.cell? ⟨w.heap.size, 5, none⟩ = some (.string ⟨#[]⟩) := cell_of hE
        have r6 : wF.cell? ⟨w.heap.size, 6, none⟩ = some (.int .u64 0) := cell_of hE
        have r7 : wF.cell? ⟨w.heap.size, 7, none⟩ = some (.int .u64 0) := cell_of hE
        have hem : (⟨#[]⟩ : ByteArray) ++ ⟨#[]⟩ = ⟨#[]⟩ := by rfl
        refine bodyPost_ret (v := .tuple #[.slice ua A.length uc, .string ⟨#[]⟩, tab0, .int .i64 9]) (by simp [results, Tryd.results23, go_sem, r0, r1, r2, r3, r4, r5, r6, r7, hem]) rfl ?_
        rw [← HAA.out]
        refine ⟨.slice ua A.length uc, by rw [HTO.out, if_pos HA0.out, if_pos HA0.out]; rfl, HLOW.out _ _ (Bo.ownsRow_frame HOW2.out fun k hk => hT.block k (Bo.ownsRow_lt HOW2.out hk) (fun e => ?_)), HBE2.out.trans (hT.to_below (Nat.le_of_lt hlt2) (fun k e => Nat.le_of_eq e.symm))⟩
        have := (World.ownsRow.lt HOW2.out k hk).1
        omega
      · have hpre := told_pre HINV.out HGOOD.out
        have ht5 := (t5_is HINV.out HGOOD.out).2.2.2
        have hle := lens HGOOD.out
        have hlk := HLK.out
        have hwl : (whole A).length ≤ 1000000000 := by
          have h1 := hle.w
          have h2 := hle.f3
          omega
        have HXE : Hid (bmk (if A = [] then [] else whole A) = bmk (S.told ++ rest S)) := Lib.hid (by rw [if_neg hl0, hpre.1])
        have HTO : Hid (toldT A = tabV S S.t5.length (S.keys.headD ⟨#[]⟩) (S.keys.getLastD ⟨#[]⟩)) := Lib.hid (by unfold toldT; rw [if_neg hl0, ← HSS.out])
        have HI0 : Hid ((if A = [] then (9 : Int) else 0) = 0) := Lib.hid (if_neg hl0)
        have HFN := Lib.hid (finish_ok HBS.out.h (HT.out.below HBS.out.below) (Nat.lt_succ_of_lt HT.out.lt) (by
            obtain ⟨a1, a2, a3, a4, a5, a6, a7⟩ := HFIT.out
            exact ⟨a1, a2, by omega, by omega, by omega, by omega, by omega⟩) (fun q hq => by
            rw [HINV.out.keys, keysOf_mem] at hq
            obtain ⟨e, he, rfl⟩ := hq
            have := (HGOOD.out.ok e he).k2
            omega) HINV.out.done (by rw [HINV.out.cnt]; intro h; exact hl0 (List.length_eq_zero_iff.1 h)) (by rw [HINV.out.keys]; exact keysOf_ne hl0) (by rw [ht5]; exact hpre.2) (by rw [ht5]; omega))
        rw [HBS.out.b] at HFN
        have HRS : Hid ((bmk (rest S)).size ≤ 1000000000 ∧ (bmk S.told).size ≤ 1000000000) := Lib.hid (by
          rw [bmk_size, bmk_size]
          have := congrArg List.length hpre.1
          rw [List.length_append] at this
          omega)
        have HEQ : Hid (bmk S.told ++ bmk (rest S) = bmk (S.told ++ rest S)) := Lib.hid (ByteArray.ext (by simp [bmk]))
        obtain ⟨R, hR⟩ : ∃ R, R = bmk (rest S) := ⟨_, rfl⟩
        rw [← hR] at HFN HRS HEQ
        obtain ⟨Z, hZ⟩ : ∃ Z, Z = S.t5.length := ⟨_, rfl⟩
        obtain ⟨fk, hfk⟩ : ∃ fk, fk = S.keys.headD ⟨#[]⟩ := ⟨_, rfl⟩
        obtain ⟨lk, hlk2⟩ : ∃ lk, lk = S.keys.getLastD ⟨#[]⟩ := ⟨_, rfl⟩
        rw [← hZ, ← hfk, ← hlk2] at HFN HTO
        obtain ⟨U, hU⟩ : ∃ U, U = bmk S.told := ⟨_, rfl⟩
        rw [← hU] at HRS HEQ ⊢
        have hsz1 := HRS.out.1
        have hsz2 := HRS.out.2
        clear hpre ht5 hle hwl htk hl0 hR hZ hfk hlk2 hU hlk
        unfold tabV at HFN
        go_wp2_with fail
        refine HFN.out.mono ?_
        rintro x w2 ⟨rfl, hg2⟩
        obtain ⟨L2, hk2⟩ := HBS.out.goes hg2
        have HK2 := Lib.hid hk2
        clear hg2 hk2
        obtain ⟨hbx, hlt2⟩ := HK2.out.boxed (Below.refl _ _)
        have c0 : w2.cell? ⟨w.heap.size, 0, none⟩ = some (.int .u64 0) := cell_of hbx
        have c1 : w2.cell? ⟨w.heap.size, 1, none⟩ = some (.int .i64 0) := cell_of hbx
        have c2 : w2.cell? ⟨w.heap.size, 2, none⟩ = some (.int .i64 0) := cell_of hbx
        have c3 : w2.cell? ⟨w.heap.size, 3, none⟩ = some (.int .i64 0) := cell_of hbx
        have c4 : w2.cell? ⟨w.heap.size, 4, none⟩ = some (.string ⟨#[]⟩) := cell_of hbx
        have c5 : w2.cell? ⟨w.heap.size, 5, none⟩ = some (.string ⟨#[]⟩) := cell_of hbx
        have c6 : w2.cell? ⟨w.heap.size, 6, none⟩ = some (.int .u64 0) := cell_of hbx
        have c7 : w2.cell? ⟨w.heap.size, 7, none⟩ = some (.int .u64 0) := cell_of hbx
        have f0 := Bo.unfrozen_of hbx 0
        have f1 := Bo.unfrozen_of hbx 1
        have f2 := Bo.unfrozen_of hbx 2
        have f3 := Bo.unfrozen_of hbx 3
        have f4 := Bo.unfrozen_of hbx 4
        have f5 := Bo.unfrozen_of hbx 5
        have f6 := Bo.unfrozen_of hbx 6
        have f7 := Bo.unfrozen_of hbx 7
        have HBX := Lib.hid hbx
        clear hbx
        go_wp2_with fail
        go_region
        go_wp2_with fail
        obtain ⟨wF, hF, hE, hT⟩ := fill8 (show Bx _ _ _ _ _ _ _ _ _ _ _ from HBX.out) (.int .u64 (S.nn : Int)) (.int .i64 S.lev) (.int .i64 (S.cnt : Int)) (.int .i64 (Z : Int)) (.string fk) (.string lk) (.int .u64 (S.least : Int)) (.int .u64 (S.most : Int)) (.cells #[.int .u64 (S.nn : Int), .int .i64 S.lev, .int .i64 (S.cnt : Int), .int .i64 (Z : Int), .string fk, .string lk, .int .u64 (S.least : Int), .int .u64 (S.most : Int)] 26)
        rw [← hF]
        clear hF
        have r0 : wF.cell? ⟨w.heap.size, 0, none⟩ = some (.int .u64 (S.nn : Int)) := cell_of hE
        have r1 : wF.cell? ⟨w.heap.size, 1, none⟩ = some (.int .i64 S.lev) := cell_of hE
        have r2 : wF.cell? ⟨w.heap.size, 2, none⟩ = some (.int .i64 (S.cnt : Int)) := cell_of hE
        have r3 : wF.cell? ⟨w.heap.size, 3, none⟩ = some (.int .i64 (Z : Int)) := cell_of hE
        have r4 : wF.cell? ⟨w.heap.size, 4, none⟩ = some (.string fk) := cell_of hE
        have r5 : wF.cell? ⟨w.heap.size, 5, none⟩ = some (.string lk) := cell_of hE
        have r6 : wF.cell? ⟨w.heap.size, 6, none⟩ = some (.int .u64 (S.least : Int)) := cell_of hE
        have r7 : wF.cell? ⟨w.heap.size, 7, none⟩ = some (.int .u64 (S.most : Int)) := cell_of hE
        refine bodyPost_ret (v := .tuple #[.slice ua A.length uc, .string (U ++ R), .agg #[.int .u64 (S.nn : Int), .int .i64 S.lev, .int .i64 (S.cnt : Int), .int .i64 (Z : Int), .string fk, .string lk, .int .u64 (S.least : Int), .int .u64 (S.most : Int)], .int .i64 0]) (by simp [results, Tryd.results23, go_sem, r0, r1, r2, r3, r4, r5, r6, r7]) rfl ?_
        rw [← HAA.out]
        refine ⟨.slice ua A.length uc, by rw [HTO.out, HI0.out, HXE.out, HEQ.out], HLOW.out _ _ (Bo.ownsRow_frame HK2.out.o fun k hk => hT.block k (Bo.ownsRow_lt HK2.out.o hk) (fun e => ?_)), HK2.out.below.trans (hT.to_below (Nat.le_of_lt hlt2) (fun k e => Nat.le_of_eq e.symm))⟩
        have := (World.ownsRow.lt HK2.out.o k hk).1
        omega
end Go.Proofs.YtphoihkbdogkhaaDoor.Bn.Tw

/- The walk of law 12's Built, of entries that a builder takes. -/
namespace Go.Proofs.YtphoihkbdogkhaaDoor.Bn.Tw
open Go Go.RowKit Go.Proofs.YtphoihkbdogkhaaDoor.Tb
open Go.Proofs.YtphoihkbdogkhaaDoor.Bn.Bo (Turns cell_of)
set_option linter.unusedVariables false
set_option maxRecDepth 100000

/-- The builder, beside the box of what will be told. -/
structure Tj (w wr : World) (L : TL) (s : TS) : Prop where
  h : BuiltT wr (w.heap.size + 1) L s
  b : L.b = w.heap.size + 1
  bel : Below (w.heap.size + 1) (w.alloc tabX) wr
theorem Tj.goes {w wr w2 : World} {L : TL} {s s' : TS} (h : Tj w wr L s) (hg : GoesT (w.heap.size + 1) L wr s' w2) : ∃ L', Tj w w2 L' s' := by
  have hbl := GoesT.to_below h.h hg
  obtain ⟨L', e1, hb2, ht, ho⟩ := hg
  exact ⟨L', hb2, e1.trans h.b, h.bel.trans hbl⟩
theorem Tj.below {w wr : World} {L : TL} {s : TS} (h : Tj w wr L s) : Below w.heap.size w wr := ((Below.refl _ _).alloc (Nat.le_refl _) _).trans (h.bel.mono (Nat.le_succ _))
theorem Tj.boxed {w wr : World} {L : TL} {s : TS} (h : Tj w wr L s) : wr.heap[w.heap.size]? = some tabX ∧ w.heap.size < wr.heap.size := by
  have h1 := h.bel.size
  rw [World.size_alloc] at h1
  refine ⟨?_, by omega⟩
  rw [h.bel.block _ (Nat.lt_succ_self _), heap_alloc_new]
theorem goodT_take {s : TS} {l : List Ent} (h : goodT s l = true) (k : Nat) : goodT s (l.take k) = true := by
  have e := goodT_append (l.take k) (l.drop k) s
  rw [List.take_append_drop, h] at e
  have := e.symm
  rw [Bool.and_eq_true] at this
  exact this.1
def BtBack (w : World) (n : Nat) (lev : Int) (l : List Ent) (x : Ending) (w' : World) : Prop :=
  x = .returned (.tuple #[.string (bmk (whole l)), tabV (runT (TS.new n lev) l) (runT (TS.new n lev) l).t5.length ((runT (TS.new n lev) l).keys.headD ⟨#[]⟩) ((runT (TS.new n lev) l).keys.getLastD ⟨#[]⟩), .int .i64 0]) ∧ Below w.heap.size w w'
set_option maxHeartbeats 4000000 in
theorem built_any {w : World} (N : Nat) (lev : Int) {a : Option Addr} {n c : Nat} {l : List Ent} (h : SeesI w (.slice a n c) l) (hl : n ≤ 100) (hT : Tab w) (hN : N < 18446744073709551616) (hgd : goodT (TS.new N lev) l = true) (hne : l ≠ []) :
    Calls Tryd.prog 42 #[.int .u64 (N : Int), .int .i64 lev, .slice a n c] w (BtBack w N lev l) := by
  obtain ⟨i1, hi, hz0, hz1, hz2⟩ := info_parts info_ent
  have HGD := Lib.hid hgd; have HNE := Lib.hid hne
  have HH := Lib.hid h; have HLN := Lib.hid h.len; have HT := Lib.hid hT
  have HN := Lib.hid (new_any N lev (w.alloc tabX))
  clear h hT hgd hne
  go_enter Tryd.func42, Tryd.ntmps42
  go_wp2_with fail
  refine HN.out.mono ?_
  rintro e w1 ⟨L1, hb1, rfl, hbt, hbel⟩
  rw [hb1]
  have HI1 : Hid (Tj w w1 L1 (TS.new N lev)) := Lib.hid (by
    rw [World.size_alloc] at hbt hb1 hbel
    exact ⟨hbt, hb1, hbel⟩)
  clear hbt hbel hb1 HN
  rw [World.size_alloc]
  go_wp2_with fail
  go_loopw [10, 11] (fun s i wr => ∃ k : Nat, k ≤ n ∧ i = .int .i64 (k : Int) ∧ s = .string (bmk (runT (TS.new N lev) (l.take k)).told) ∧ Hid (∃ L, Tj w wr L (runT (TS.new N lev) (l.take k)))) (fun _ i _ => n - (intOf i).toNat)
  case atStart => exact ⟨0, by omega, rfl, rfl, Lib.hid ⟨L1, HI1.out⟩⟩
  case round =>
    obtain ⟨k, hk, rfl, rfl, HI⟩ := hrel
    clear HI1
    obtain ⟨L, hbs⟩ := HI.out
    obtain ⟨hinv, hgood⟩ := runT_inv (l.take k) (inv_new N lev) good_nil (goodT_take HGD.out k)
    rw [List.nil_append] at hinv hgood
    have hlk : (l.take k).length ≤ k := by rw [List.length_take]; omega
    have hfit := fits_inv hinv hgood (n := 100000) (by omega)
    have HINV := Lib.hid hinv; have HGOOD := Lib.hid hgood; have HFIT := Lib.hid hfit
    have HBS := Lib.hid hbs
    obtain ⟨S, hS⟩ : ∃ S, S = runT (TS.new N lev) (l.take k) := ⟨_, rfl⟩
    rw [← hS] at HBS HINV HFIT ⊢
    have HSS := Lib.hid hS
    clear hbs hinv hgood hlk hfit hS HI
    by_cases hkn : k < n
    · have hkn' : (k : Int) < n := by omega
      obtain ⟨e, he⟩ : ∃ e, l[k]? = some e := ⟨_, List.getElem?_eq_getElem (by rw [HLN.out]; exact hkn)⟩
      obtain ⟨g, off, rfl, hg, hz, g0, g1, g2, g3⟩ := HH.out.get he
      have hbw : Below w.heap.size w wr := HBS.out.below
      have c0 := (hbw.cell (p := ⟨g, _, none⟩) hg).trans g0
      have c1 := (hbw.cell (p := ⟨g, _, none⟩) hg).trans g1
      have c2 := (hbw.cell (p := ⟨g, _, none⟩) hg).trans g2
      have c3 := (hbw.cell (p := ⟨g, _, none⟩) hg).trans g3
      have HTK : Hid (l.take (k + 1) = l.take k ++ [e]) := Lib.hid (by rw [List.take_add_one, he]; rfl)
      have HZ : Hid (errE S e = 0) := Lib.hid (by
        have h := goodT_take HGD.out (k + 1)
        rw [HTK.out, goodT_snoc, ← HSS.out, Bool.and_eq_true] at h
        simpa using h.2)
      have HADD : Hid (Calls Tryd.prog 10 #[.pointer (some ⟨w.heap.size + 1, 0, none⟩), enV e] wr (AddV (w.heap.size + 1) L wr S e)) := Lib.hid (by
        have := add_any HBS.out.h e hz.1 HFIT.out
        rwa [HBS.out.b] at this)
      have hsz : (bmk S.told).size + (bmk (piece S e)).size ≤ 100000000000 := by
        have h1 := HFIT.out.t
        have h2 := piece_le HFIT.out e
        rw [bmk_size, bmk_size]
        omega
      have HTD : Hid (bmk S.told ++ bmk (piece S e) = bmk (addS S e).told) := Lib.hid (by rw [told_step]; exact ByteArray.ext (by simp [bmk]))
      obtain ⟨EK, EV, EQ, EG⟩ := e
      dsimp only [enV] at HADD
      dsimp only at c0 c1 c2 c3
      clear g0 g1 g2 g3 he hbw hz
      have hgr : g < wr.heap.size := Nat.lt_of_lt_of_le hg HBS.out.below.size
      go_wp2_with fail
      refine HADD.out.mono ?_
      rintro x w2 ⟨rfl, hg2⟩
      have HG2 := Lib.hid (HBS.out.goes hg2)
      clear hg2 c0 c1 c2 c3
      rw [HZ.out]
      generalize piece S ⟨EK, EV, EQ, EG⟩ = PC at *
      go_wp2_with fail
      go_roundw
      case rel => exact ⟨k + 1, by omega, by go_num, by rw [HTD.out, HTK.out, runT_snoc, ← HSS.out], by rw [HTK.out, runT_snoc, ← HSS.out]; exact Lib.hid HG2.out⟩
      case measure => simp [intOf]; omega
    · obtain rfl : k = n := by omega
      have hkn' : ¬ ((k : Nat) : Int) < k := by omega
      have htk : l.take k = l := List.take_of_length_le (by rw [HLN.out]; exact Nat.le_refl _)
      rw [htk] at HSS HINV HGOOD
      have hpre := told_pre HINV.out HGOOD.out
      have ht5 := (t5_is HINV.out HGOOD.out).2.2.2
      have hle := lens HGOOD.out
      have hlk : l.length ≤ 100 := by have := HLN.out; omega
      have hl0 := HNE.out
      have hwl : (whole l).length ≤ 1000000000 := by
        have h1 := hle.w
        have h2 := hle.f3
        omega
      have HXE : Hid (bmk (whole l) = bmk (S.told ++ rest S)) := Lib.hid (by rw [hpre.1])
      have HTO : Hid (tabV (runT (TS.new N lev) l) (runT (TS.new N lev) l).t5.length ((runT (TS.new N lev) l).keys.headD ⟨#[]⟩) ((runT (TS.new N lev) l).keys.getLastD ⟨#[]⟩) = tabV S S.t5.length (S.keys.headD ⟨#[]⟩) (S.keys.getLastD ⟨#[]⟩)) := Lib.hid (by rw [← HSS.out])
      have HFN := Lib.hid (finish_ok HBS.out.h (HT.out.below HBS.out.below) (Nat.lt_succ_of_lt HT.out.lt) (by
          obtain ⟨a1, a2, a3, a4, a5, a6, a7⟩ := HFIT.out
          exact ⟨a1, a2, by omega, by omega, by omega, by omega, by omega⟩) (fun q hq => by
          rw [HINV.out.keys, keysOf_mem] at hq
          obtain ⟨e, he, rfl⟩ := hq
          have := (HGOOD.out.ok e he).k2
          omega) HINV.out.done (by rw [HINV.out.cnt]; intro h; exact hl0 (List.length_eq_zero_iff.1 h)) (by rw [HINV.out.keys]; exact keysOf_ne hl0) (by rw [ht5]; exact hpre.2) (by rw [ht5]; omega))
      rw [HBS.out.b] at HFN
      have HRS : Hid ((bmk (rest S)).size ≤ 1000000000 ∧ (bmk S.told).size ≤ 1000000000) := Lib.hid (by
        rw [bmk_size, bmk_size]
        have := congrArg List.length hpre.1
        rw [List.length_append] at this
        omega)
      have HEQ : Hid (bmk S.told ++ bmk (rest S) = bmk (S.told ++ rest S)) := Lib.hid (ByteArray.ext (by simp [bmk]))
      obtain ⟨R, hR⟩ : ∃ R, R = bmk (rest S) := ⟨_, rfl⟩
      rw [← hR] at HFN HRS HEQ
      obtain ⟨Z, hZ⟩ : ∃ Z, Z = S.t5.length := ⟨_, rfl⟩
      obtain ⟨fk, hfk⟩ : ∃ fk, fk = S.keys.headD ⟨#[]⟩ := ⟨_, rfl⟩
      obtain ⟨lk, hlk2⟩ : ∃ lk, lk = S.keys.getLastD ⟨#[]⟩ := ⟨_, rfl⟩
      rw [← hZ, ← hfk, ← hlk2] at HFN HTO
      obtain ⟨U, hU⟩ : ∃ U, U = bmk S.told := ⟨_, rfl⟩
      rw [← hU] at HRS HEQ ⊢
      have hsz1 := HRS.out.1
      have hsz2 := HRS.out.2
      clear hpre ht5 hle hwl htk hl0 hR hZ hfk hlk2 hU hlk
      unfold tabV at HFN
      go_wp2_with fail
      refine HFN.out.mono ?_
      rintro x w2 ⟨rfl, hg2⟩
      obtain ⟨L2, hk2⟩ := HBS.out.goes hg2
      have HK2 := Lib.hid hk2
      clear hg2 hk2
      obtain ⟨hbx, hlt2⟩ := HK2.out.boxed
      have c0 : w2.cell? ⟨w.heap.size, 0, none⟩ = some (.int .u64 0) := cell_of hbx
      have c1 : w2.cell? ⟨w.heap.size, 1, none⟩ = some (.int .i64 0) := cell_of hbx
      have c2 : w2.cell? ⟨w.heap.size, 2, none⟩ = some (.int .i64 0) := cell_of hbx
      have c3 : w2.cell? ⟨w.heap.size, 3, none⟩ = some (.int .i64 0) := cell_of hbx
      have c4 : w2.cell? ⟨w.heap.size, 4, none⟩ = some (.string ⟨#[]⟩) := cell_of hbx
      have c5 : w2.cell? ⟨w.heap.size, 5, none⟩ = some (.string ⟨#[]⟩) := cell_of hbx
      have c6 : w2.cell? ⟨w.heap.size, 6, none⟩ = some (.int .u64 0) := cell_of hbx
      have c7 : w2.cell? ⟨w.heap.size, 7, none⟩ = some (.int .u64 0) := cell_of hbx
      have f0 := Bo.unfrozen_of hbx 0
      have f1 := Bo.unfrozen_of hbx 1
      have f2 := Bo.unfrozen_of hbx 2
      have f3 := Bo.unfrozen_of hbx 3
      have f4 := Bo.unfrozen_of hbx 4
      have f5 := Bo.unfrozen_of hbx 5
      have f6 := Bo.unfrozen_of hbx 6
      have f7 := Bo.unfrozen_of hbx 7
      have HBX := Lib.hid hbx
      clear hbx
      go_wp2_with fail
      go_region
      go_wp2_with fail
      obtain ⟨wF, hF, hE, hT⟩ := fill8 (show Bx _ _ _ _ _ _ _ _ _ _ _ from HBX.out) (.int .u64 (S.nn : Int)) (.int .i64 S.lev) (.int .i64 (S.cnt : Int)) (.int .i64 (Z : Int)) (.string fk) (.string lk) (.int .u64 (S.least : Int)) (.int .u64 (S.most : Int)) (.cells #[.int .u64 (S.nn : Int), .int .i64 S.lev, .int .i64 (S.cnt : Int), .int .i64 (Z : Int), .string fk, .string lk, .int .u64 (S.least : Int), .int .u64 (S.most : Int)] 26)
      rw [← hF]
      clear hF
      have r0 : wF.cell? ⟨w.heap.size, 0, none⟩ = some (.int .u64 (S.nn : Int)) := cell_of hE
      have r1 : wF.cell? ⟨w.heap.size, 1, none⟩ = some (.int .i64 S.lev) := cell_of hE
      have r2 : wF.cell? ⟨w.heap.size, 2, none⟩ = some (.int .i64 (S.cnt : Int)) := cell_of hE
      have r3 : wF.cell? ⟨w.heap.size, 3, none⟩ = some (.int .i64 (Z : Int)) := cell_of hE
      have r4 : wF.cell? ⟨w.heap.size, 4, none⟩ = some (.string fk) := cell_of hE
      have r5 : wF.cell? ⟨w.heap.size, 5, none⟩ = some (.string lk) := cell_of hE
      have r6 : wF.cell? ⟨w.heap.size, 6, none⟩ = some (.int .u64 (S.least : Int)) := cell_of hE
      have r7 : wF.cell? ⟨w.heap.size, 7, none⟩ = some (.int .u64 (S.most : Int)) := cell_of hE
      refine bodyPost_ret (v := .tuple #[.string (U ++ R), .agg #[.int .u64 (S.nn : Int), .int .i64 S.lev, .int .i64 (S.cnt : Int), .int .i64 (Z : Int), .string fk, .string lk, .int .u64 (S.least : Int), .int .u64 (S.most : Int)], .int .i64 0]) (by simp [results, Tryd.results42, go_sem, r0, r1, r2, r3, r4, r5, r6, r7]) rfl ?_
      refine ⟨?_, HK2.out.below.trans (hT.to_below (Nat.le_of_lt hlt2) (fun k e => Nat.le_of_eq e.symm))⟩
      rw [HTO.out, HXE.out, HEQ.out]
end Go.Proofs.YtphoihkbdogkhaaDoor.Bn.Tw

/- Tables that were opened of good entries' bytes: what their methods tell. -/
namespace Go.Proofs.YtphoihkbdogkhaaDoor.Bn.Tw
open Go Go.RowKit Go.Proofs.YtphoihkbdogkhaaDoor.Tb
open Go.Proofs.YtphoihkbdogkhaaDoor.Bn.Bo (Turns cell_of heap_lt)
set_option linter.unusedVariables false
set_option maxRecDepth 100000

theorem whole_le {A : List Ent} (g : Tb.Good A) (hA : A.length ≤ 100) : (whole A).length ≤ 100000 := by
  have h := lens g
  have h1 := h.w
  have h2 := h.f3
  omega
theorem open_good {A : List Ent} (g : Tb.Good A) (hne : A ≠ []) (hA : A.length ≤ 100) (W : World) (hT : Tab W) : Calls Tryd.prog 12 #[.string (bmk (whole A))] W (fun x w' => Below W.heap.size W w' ∧ ∃ p f ix bv l, x = .returned (.tuple #[.pointer (some ⟨p, 0, none⟩), .int .i64 0]) ∧ Tab1 w' W.heap.size p f ix bv l ∧ tOf f ix l = tabOf A) := by
  have h := open_any (bmk (whole A)) W (by rw [bmk_size]; exact whole_le g hA) hT
  have e : openT (bmk (whole A)).data.toList = some (tabOf A) := openT_whole g hne (by omega)
  rw [e] at h
  exact h
theorem fine_of {A : List Ent} (g : Tb.Good A) (hA : A.length ≤ 100) {f : ByteArray} {ix : BL1} {l : List BL1} (he : tOf f ix l = tabOf A) : (Small l ∧ ix.rs.length ≤ 1000000 ∧ Bo.Asc ix.es ∧ (∀ x ∈ l, Bo.Asc x.es) ∧ (l.map BL1.es).flatten.length ≤ 1000000) ∧ l.length = ix.rs.length ∧ f.size ≤ 1000000 := by
  have hr := rd_fine (rd_whole g (by omega))
  rw [← he] at hr
  have hw := whole_le g hA
  obtain ⟨a1, a2, a3, a4, a5⟩ := hr.small (by omega)
  refine ⟨⟨a1, a2, a3, a4, by omega⟩, ?_, ?_⟩
  · have := hr.l; rw [List.length_map, List.length_map] at this; exact this
  · have e : f.data.toList = Bl.mk (kls (keysOf A)) := congrArg T.filter he
    have h1 := mk_le (keysOf A)
    have h2 : (keysOf A).length ≤ A.length := keysOf_length A
    have h3 : f.size = f.data.toList.length := (Bo.len f).symm
    rw [h3, e]; omega
theorem get_of {A : List Ent} (g : Tb.Good A) (hA : A.length ≤ 100) {w : World} {base p : Nat} {f : ByteArray} {ix : BL1} {bv : Value} {l : List BL1} (h : Tab1 w base p f ix bv l) (he : tOf f ix l = tabOf A) (k : ByteArray) (q : Nat) (hk : k.size ≤ 1000000) (hq : q < 18446744073709551616) :
    Calls Tryd.prog 11 #[.pointer (some ⟨p, 0, none⟩), .string k, .int .u64 (q : Int)] w (Gives (getV (getT (tabOf A) k q)) w) := by
  obtain ⟨⟨a1, a2, a3, a4, a5⟩, a6, a7⟩ := fine_of g hA he
  rw [← he]
  exact get_any h a1 a2 a6 a3 a4 (by omega) k q hk hq
theorem may_of {A : List Ent} (g : Tb.Good A) (hA : A.length ≤ 100) {w : World} {base p : Nat} {f : ByteArray} {ix : BL1} {bv : Value} {l : List BL1} (h : Tab1 w base p f ix bv l) (he : tOf f ix l = tabOf A) (k : ByteArray) (hk : k.size ≤ 1000000) :
    Calls Tryd.prog 13 #[.pointer (some ⟨p, 0, none⟩), .string k] w (Gives (.bool (Bl.may (tabOf A).filter k.data.toList)) w) := by
  obtain ⟨_, _, a7⟩ := fine_of g hA he
  rw [← he]
  exact mayT_any h (by omega) k (by omega)
theorem range_of {A : List Ent} (g : Tb.Good A) (hA : A.length ≤ 100) {w : World} {base p : Nat} {f : ByteArray} {ix : BL1} {bv : Value} {l : List BL1} (h : Tab1 w base p f ix bv l) (he : tOf f ix l = tabOf A) (a b : ByteArray) (hk : a.size ≤ 1000000) :
    Calls Tryd.prog 15 #[.pointer (some ⟨p, 0, none⟩), .string a, .string b] w (EntsBack (A.filter fun e => !less e.key a && okTo b e) w) := by
  obtain ⟨⟨a1, a2, a3, a4, a5⟩, a6, a7⟩ := fine_of g hA he
  rw [← rangeT_is g, ← he]
  exact range_any h a1 a2 a3 a4 (by omega) a b hk
theorem all_of {A : List Ent} (g : Tb.Good A) (hA : A.length ≤ 100) {w : World} {base p : Nat} {f : ByteArray} {ix : BL1} {bv : Value} {l : List BL1} (h : Tab1 w base p f ix bv l) (he : tOf f ix l = tabOf A) :
    Calls Tryd.prog 14 #[.pointer (some ⟨p, 0, none⟩)] w (EntsBack A w) := by
  obtain ⟨⟨a1, a2, a3, a4, a5⟩, a6, a7⟩ := fine_of g hA he
  have e := all_is g
  rw [← he] at e
  have := all_any h a1 (by omega)
  rw [e] at this
  exact this
/-- Of a key that it has the filter tells. -/
theorem may_key {A : List Ent} {e : Ent} (he : e ∈ A) : Bl.may (tabOf A).filter e.key.data.toList = true :=
  Bl.may_mk (List.mem_map.2 ⟨e.key, (keysOf_mem A e.key).2 ⟨e, he, rfl⟩, rfl⟩)
end Go.Proofs.YtphoihkbdogkhaaDoor.Bn.Tw

/- The walks of law 12's small, awake. -/
namespace Go.Proofs.YtphoihkbdogkhaaDoor.Bn.Tw
open Go Go.RowKit Go.Proofs.YtphoihkbdogkhaaDoor.Tb
open Go.Proofs.YtphoihkbdogkhaaDoor.Bn.Bo (Turns cell_of heap_lt)
set_option linter.unusedVariables false
set_option maxRecDepth 100000

def e1 : Ent := ⟨⟨#[97]⟩, ⟨#[120]⟩, 5, false⟩
def e2 : Ent := ⟨⟨#[97]⟩, ⟨#[]⟩, 3, true⟩
def e3 : Ent := ⟨⟨#[98]⟩, ⟨#[121]⟩, 9, false⟩
def sml : List Ent := [e1, e2, e3]
abbrev smlX : Obj := .cells #[.string ⟨#[97]⟩, .string ⟨#[120]⟩, .int .u64 5, .bool false, .string ⟨#[97]⟩, .string ⟨#[]⟩, .int .u64 3, .bool true, .string ⟨#[98]⟩, .string ⟨#[121]⟩, .int .u64 9, .bool false] 33
theorem small_any (w : World) : Calls Tryd.prog 43 #[] w fun e w' => e = .returned (.slice (some ⟨w.heap.size, 0, none⟩) 3 3) ∧ w' = w.alloc smlX := by
  go_enter Tryd.func43, Tryd.ntmps43
  go_wp2_with fail
  go_ret
  exact ⟨rfl, rfl⟩
theorem addS_nn (s : TS) (e : Ent) : (addS s e).nn = s.nn ∧ (addS s e).lev = s.lev := by
  unfold addS
  split
  · exact ⟨rfl, rfl⟩
  · split <;> exact ⟨rfl, rfl⟩
theorem runT_nn : ∀ (l : List Ent) (s : TS), (runT s l).nn = s.nn ∧ (runT s l).lev = s.lev
  | [], s => ⟨rfl, rfl⟩
  | e :: l, s => by
    have h := runT_nn l (addS s e)
    have h2 := addS_nn s e
    have e1 : runT s (e :: l) = runT (addS s e) l := rfl
    rw [e1, h.1, h.2, h2.1, h2.2]
    exact ⟨rfl, rfl⟩
theorem less_pl (a b : Ent) (h1 : a.seq < 18446744073709551616) (h2 : b.seq < 18446744073709551616) : less (pl a) (pl b) = (less a.key b.key || (decide (a.key = b.key) && decide (b.seq < a.seq))) := less_place a b.key h1 h2
theorem sml_g : Tb.Good sml := by
  refine ⟨fun e he => ?_, ?_⟩
  · have : e = e1 ∨ e = e2 ∨ e = e3 := by simpa [sml] using he
    rcases this with rfl | rfl | rfl
    · exact ⟨by decide, by decide, by decide, by decide, by decide, by decide⟩
    · exact ⟨by decide, by decide, by decide, by decide, by decide, by decide⟩
    · exact ⟨by decide, by decide, by decide, by decide, by decide, by decide⟩
  · have a1 : less (pl e1) (pl e2) = true := by rw [less_pl e1 e2 (by decide) (by decide)]; decide
    have a2 : less (pl e1) (pl e3) = true := by rw [less_pl e1 e3 (by decide) (by decide)]; decide
    have a3 : less (pl e2) (pl e3) = true := by rw [less_pl e2 e3 (by decide) (by decide)]; decide
    show List.Pairwise _ [e1, e2, e3]
    simp [a1, a2, a3]
theorem sml_good (n : Nat) (lev : Int) : goodT (TS.new n lev) sml = true := good_goodT sml (inv_new n lev) sml_g
theorem sml_inv : Inv (runT (TS.new 7 1) sml) sml := (runT_inv sml (inv_new 7 1) good_nil (sml_good 7 1)).1
theorem sml_run : (runT (TS.new 7 1) sml).nn = 7 ∧ (runT (TS.new 7 1) sml).lev = 1 ∧ (runT (TS.new 7 1) sml).cnt = 3 ∧ (runT (TS.new 7 1) sml).keys.headD ⟨#[]⟩ = ⟨#[97]⟩ ∧ (runT (TS.new 7 1) sml).keys.getLastD ⟨#[]⟩ = ⟨#[98]⟩ ∧ (runT (TS.new 7 1) sml).least = 3 ∧ (runT (TS.new 7 1) sml).most = 9 := by
  rw [sml_inv.cnt, sml_inv.keys, sml_inv.least, sml_inv.most, (runT_nn sml _).1, (runT_nn sml _).2]
  exact ⟨rfl, rfl, rfl, by decide, by decide, by decide, by decide⟩
theorem sml_t5 : (runT (TS.new 7 1) sml).t5 = whole sml := (t5_is sml_inv sml_g).2.2.2
theorem sml_get9 : getT (tabOf sml) e1.key 9 = some e1 := getT_find (l := sml) (i := 0) (q := 9) (e := e1) sml_g (by decide) rfl (by decide) (fun j hj => absurd hj (by omega))
theorem sml_get4 : getT (tabOf sml) e2.key 4 = some e2 := getT_find (l := sml) (i := 1) (q := 4) (e := e2) sml_g (by decide) rfl (by decide) (fun j hj x hx => by
  obtain rfl : j = 0 := by omega
  obtain rfl : e1 = x := by simpa [sml] using hx
  exact Or.inr (by decide))
theorem sml_get2 : getT (tabOf sml) e1.key 2 = none := by
  cases h : getT (tabOf sml) e1.key 2 with
  | none => rfl
  | some e =>
    obtain ⟨h1, h2, h3⟩ := getT_some sml_g (by decide) h
    have : e = e1 ∨ e = e2 ∨ e = e3 := by simpa [sml] using h1
    rcases this with rfl | rfl | rfl
    · exact absurd h3 (by decide)
    · exact absurd h3 (by decide)
    · exact absurd h2 (by decide)
theorem sml_range : rangeT (tabOf sml) ⟨#[97]⟩ ⟨#[98]⟩ = [e1, e2] := by rw [rangeT_is sml_g]; kernel_rfl
theorem sml_all : Tb.all (tabOf sml) = sml := all_is sml_g

theorem nx {w w1 w2 : World} (h1 : Below w.heap.size w w1) (h2 : Below w1.heap.size w1 w2) : Below w.heap.size w w2 := h1.trans (h2.mono h1.size)
/-- The first two of the chapter's entries lie there. -/
abbrev C8 (w : World) (b : Nat) : Prop := w.cell? ⟨b, 0, none⟩ = some (.string ⟨#[97]⟩) ∧ w.cell? ⟨b, 1, none⟩ = some (.string ⟨#[120]⟩) ∧ w.cell? ⟨b, 2, none⟩ = some (.int .u64 5) ∧ w.cell? ⟨b, 3, none⟩ = some (.bool false) ∧ w.cell? ⟨b, 4, none⟩ = some (.string ⟨#[97]⟩) ∧ w.cell? ⟨b, 5, none⟩ = some (.string ⟨#[]⟩) ∧ w.cell? ⟨b, 6, none⟩ = some (.int .u64 3) ∧ w.cell? ⟨b, 7, none⟩ = some (.bool true)
theorem small_two (w : World) : Calls Tryd.prog 43 #[] w fun e w' => ∃ b, e = .returned (.slice (some ⟨b, 0, none⟩) 3 3) ∧ C8 w' b ∧ Below w.heap.size w w' := by
  refine (small_any w).mono ?_
  rintro e w' ⟨rfl, rfl⟩
  have hx := heap_alloc_new w smlX
  exact ⟨w.heap.size, rfl, ⟨cell_of hx, cell_of hx, cell_of hx, cell_of hx, cell_of hx, cell_of hx, cell_of hx, cell_of hx⟩, box_below _ _⟩
/-- What awake looks at, at its end. -/
abbrev AwT (w : World) (a b : Nat) : Prop := w.cell? ⟨a, 0, none⟩ = some (.string ⟨#[97]⟩) ∧ w.cell? ⟨a, 1, none⟩ = some (.string ⟨#[120]⟩) ∧ w.cell? ⟨a, 2, none⟩ = some (.int .u64 5) ∧ w.cell? ⟨a, 3, none⟩ = some (.bool false) ∧ w.cell? ⟨b, 0, none⟩ = some (.string ⟨#[97]⟩) ∧ w.cell? ⟨b, 1, none⟩ = some (.string ⟨#[]⟩) ∧ w.cell? ⟨b, 2, none⟩ = some (.int .u64 3) ∧ w.cell? ⟨b, 3, none⟩ = some (.bool true)
theorem AwT.of {w w' : World} {a b : Nat} (h : AwT w a b) {B : Nat} (hb : Below B w w') (k1 : a < B) (k2 : b < B) : AwT w' a b := by
  obtain ⟨h0, h1, h2, h3, h4, h5, h6, h7⟩ := h
  exact ⟨(hb.cell (p := ⟨a, 0, none⟩) k1).trans h0, (hb.cell (p := ⟨a, 1, none⟩) k1).trans h1, (hb.cell (p := ⟨a, 2, none⟩) k1).trans h2, (hb.cell (p := ⟨a, 3, none⟩) k1).trans h3, (hb.cell (p := ⟨b, 0, none⟩) k2).trans h4, (hb.cell (p := ⟨b, 1, none⟩) k2).trans h5, (hb.cell (p := ⟨b, 2, none⟩) k2).trans h6, (hb.cell (p := ⟨b, 3, none⟩) k2).trans h7⟩
set_option maxHeartbeats 4000000 in
theorem awake_any (w : World) (hT : Tab w) : Calls Tryd.prog 17 #[] w (Gives (.bool true) w) := by
  obtain ⟨q1, q2, q3, q4, q5, q6, q7⟩ := sml_run
  have hlw : (whole sml).length ≤ 100000 := by
    have h := lens sml_g
    have h1 := h.w
    have h2 := h.f3
    have : sml.length = 3 := rfl
    omega
  have HBL : Hid (∀ W, Below w.heap.size w W → ∀ b, b < W.heap.size → SeesI W (.slice (some ⟨b, 0, none⟩) 3 3) sml → Calls Tryd.prog 42 #[.int .u64 7, .int .i64 1, .slice (some ⟨b, 0, none⟩) 3 3] W (fun x w' => x = .returned (.tuple #[.string (bmk (whole sml)), .agg #[.int .u64 7, .int .i64 1, .int .i64 3, .int .i64 ((whole sml).length : Int), .string ⟨#[97]⟩, .string ⟨#[98]⟩, .int .u64 3, .int .u64 9], .int .i64 0]) ∧ Below W.heap.size W w')) := Lib.hid (fun W hb b hlt hs => by
    refine (built_any 7 1 hs (by omega) (hT.below hb) (by omega) (sml_good 7 1) (by decide)).mono ?_
    rintro x w' ⟨rfl, h2⟩
    refine ⟨?_, h2⟩
    unfold tabV
    rw [q1, q2, q3, q4, q5, q6, q7, sml_t5]
    rfl)
  clear q1 q2 q3 q4 q5 q6 q7
  go_enter Tryd.func17, Tryd.ntmps17
  go_wp2_with fail
  refine (small_any _).mono ?_
  rintro r w1 ⟨rfl, rfl⟩
  have HB1 : Hid (Below w.heap.size w (w.alloc smlX)) := Lib.hid (box_below _ _)
  have HS1 : Hid (SeesI (w.alloc smlX) (.slice (some ⟨w.heap.size, 0, none⟩) 3 3) sml) := Lib.hid (by
    have hx := heap_alloc_new w smlX
    refine Or.inr ⟨w.heap.size, 0, 3, rfl, heap_lt hx, fun i x hi => ?_⟩
    match i, hi with
    | 0, hi =>
      obtain rfl : e1 = x := by simpa [sml] using hi
      exact ⟨⟨by decide, by decide, by decide⟩, cell_of hx, cell_of hx, cell_of hx, cell_of hx⟩
    | 1, hi =>
      obtain rfl : e2 = x := by simpa [sml] using hi
      exact ⟨⟨by decide, by decide, by decide⟩, cell_of hx, cell_of hx, cell_of hx, cell_of hx⟩
    | 2, hi =>
      obtain rfl : e3 = x := by simpa [sml] using hi
      exact ⟨⟨by decide, by decide, by decide⟩, cell_of hx, cell_of hx, cell_of hx, cell_of hx⟩
    | i + 3, hi => simp [sml] at hi)
  go_wp2_with fail
  refine (HBL.out _ HB1.out _ (by simp) HS1.out).mono ?_
  rintro r w2 ⟨rfl, hb2⟩
  have HB2 : Hid (Below w.heap.size w w2) := Lib.hid (HB1.out.trans (hb2.mono HB1.out.size))
  clear hb2
  have HX2 : Hid ((w2.alloc (.cells #[.int .u64 7, .int .i64 1, .int .i64 3, .int .i64 ((whole sml).length : Int), .string ⟨#[97]⟩, .string ⟨#[98]⟩, .int .u64 3, .int .u64 9] 26)).heap[w2.heap.size]? = some (.cells #[.int .u64 7, .int .i64 1, .int .i64 3, .int .i64 ((whole sml).length : Int), .string ⟨#[97]⟩, .string ⟨#[98]⟩, .int .u64 3, .int .u64 9] 26)) := Lib.hid (heap_alloc_new _ _)
  have HB3 : Hid (Below w.heap.size w (w2.alloc (.cells #[.int .u64 7, .int .i64 1, .int .i64 3, .int .i64 ((whole sml).length : Int), .string ⟨#[97]⟩, .string ⟨#[98]⟩, .int .u64 3, .int .u64 9] 26))) := Lib.hid (HB2.out.alloc HB2.out.size _)
  have HO : Hid (∀ W, Below w.heap.size w W → Calls Tryd.prog 12 #[.string (bmk (whole sml))] W (fun x w' => Below W.heap.size W w' ∧ ∃ p f ix bv l, x = .returned (.tuple #[.pointer (some ⟨p, 0, none⟩), .int .i64 0]) ∧ Tab1 w' W.heap.size p f ix bv l ∧ tOf f ix l = tabOf sml)) := Lib.hid (fun W hb => open_good sml_g (by decide) (by decide) W (hT.below hb))
  have HLW := Lib.hid hlw
  have HSZ : Hid ((bmk (whole sml)).size = (whole sml).length) := Lib.hid (bmk_size _)
  obtain ⟨SS, hSS⟩ : ∃ SS, SS = bmk (whole sml) := ⟨_, rfl⟩
  rw [← hSS] at HO HSZ ⊢
  rw [← HSZ.out] at HX2 HB3 HLW ⊢
  clear hSS hlw HBL HS1 HSZ
  go_wp2_with fail
  refine (HO.out _ HB3.out).mono ?_
  rintro r w4 ⟨hb4, p, f, ix, bv, l, rfl, ht4, hto⟩
  have HB4 : Hid (Below w.heap.size w w4) := Lib.hid (HB3.out.trans (hb4.mono HB3.out.size))
  have HT4 := Lib.hid ht4; have HTO := Lib.hid hto
  have HBX := Lib.hid hb4
  clear ht4 hto hb4
  have hx4 : w4.heap[w2.heap.size]? = some (.cells #[.int .u64 7, .int .i64 1, .int .i64 3, .int .i64 (SS.size : Int), .string ⟨#[97]⟩, .string ⟨#[98]⟩, .int .u64 3, .int .u64 9] 26 (0, 0)) := (HBX.out.block _ (heap_lt HX2.out)).trans HX2.out
  have c0 : w4.cell? ⟨w2.heap.size, 0, none⟩ = some (.int .u64 7) := cell_of hx4
  have c1 : w4.cell? ⟨w2.heap.size, 1, none⟩ = some (.int .i64 1) := cell_of hx4
  have c2 : w4.cell? ⟨w2.heap.size, 2, none⟩ = some (.int .i64 3) := cell_of hx4
  have c3 : w4.cell? ⟨w2.heap.size, 3, none⟩ = some (.int .i64 (SS.size : Int)) := cell_of hx4
  have c4 : w4.cell? ⟨w2.heap.size, 4, none⟩ = some (.string ⟨#[97]⟩) := cell_of hx4
  have c5 : w4.cell? ⟨w2.heap.size, 5, none⟩ = some (.string ⟨#[98]⟩) := cell_of hx4
  have c6 : w4.cell? ⟨w2.heap.size, 6, none⟩ = some (.int .u64 3) := cell_of hx4
  have c7 : w4.cell? ⟨w2.heap.size, 7, none⟩ = some (.int .u64 9) := cell_of hx4
  have HG9 : Hid (∀ W, Below w4.heap.size w4 W → Calls Tryd.prog 11 #[.pointer (some ⟨p, 0, none⟩), .string ⟨#[97]⟩, .int .u64 9] W (Gives (.tuple #[.agg #[.string ⟨#[97]⟩, .string ⟨#[120]⟩, .int .u64 5, .bool false], .bool true]) W)) := Lib.hid (fun W hb => by
    have h := get_of sml_g (by decide) (HT4.out.below hb) HTO.out e1.key 9 (by decide) (by omega)
    rw [sml_get9] at h
    exact h)
  have HG4 : Hid (∀ W, Below w4.heap.size w4 W → Calls Tryd.prog 11 #[.pointer (some ⟨p, 0, none⟩), .string ⟨#[97]⟩, .int .u64 4] W (Gives (.tuple #[.agg #[.string ⟨#[97]⟩, .string ⟨#[]⟩, .int .u64 3, .bool true], .bool true]) W)) := Lib.hid (fun W hb => by
    have h := get_of sml_g (by decide) (HT4.out.below hb) HTO.out e2.key 4 (by decide) (by omega)
    rw [sml_get4] at h
    exact h)
  have HG2 : Hid (∀ W, Below w4.heap.size w4 W → Calls Tryd.prog 11 #[.pointer (some ⟨p, 0, none⟩), .string ⟨#[97]⟩, .int .u64 2] W (Gives (.tuple #[.agg #[.string ⟨#[]⟩, .string ⟨#[]⟩, .int .u64 0, .bool false], .bool false]) W)) := Lib.hid (fun W hb => by
    have h := get_of sml_g (by decide) (HT4.out.below hb) HTO.out e1.key 2 (by decide) (by omega)
    rw [sml_get2] at h
    exact h)
  have HRG : Hid (∀ W, Below w4.heap.size w4 W → Calls Tryd.prog 15 #[.pointer (some ⟨p, 0, none⟩), .string ⟨#[97]⟩, .string ⟨#[98]⟩] W (fun x w' => ∃ a c, x = .returned (.slice a 2 c) ∧ Below W.heap.size W w')) := Lib.hid (fun W hb => by
    have h := range_of sml_g (by decide) (HT4.out.below hb) HTO.out e1.key e3.key (by decide)
    have e : (sml.filter fun e => !less e.key e1.key && okTo e3.key e) = [e1, e2] := by kernel_rfl
    rw [e] at h
    refine h.mono ?_
    rintro x w' ⟨v, rfl, ho, hb⟩
    obtain ⟨a, c, rfl⟩ := Bo.row_any ho
    exact ⟨a, c, rfl, hb⟩)
  have HAL : Hid (∀ W, Below w4.heap.size w4 W → Calls Tryd.prog 14 #[.pointer (some ⟨p, 0, none⟩)] W (fun x w' => ∃ a c, x = .returned (.slice a 3 c) ∧ Below W.heap.size W w')) := Lib.hid (fun W hb => by
    have h := all_of sml_g (by decide) (HT4.out.below hb) HTO.out
    refine h.mono ?_
    rintro x w' ⟨v, rfl, ho, hb⟩
    obtain ⟨a, c, rfl⟩ := Bo.row_any ho
    exact ⟨a, c, rfl, hb⟩)
  have HMY : Hid (∀ W, Below w4.heap.size w4 W → Calls Tryd.prog 13 #[.pointer (some ⟨p, 0, none⟩), .string ⟨#[98]⟩] W (Gives (.bool true) W)) := Lib.hid (fun W hb => by
    have h := may_of sml_g (by decide) (HT4.out.below hb) HTO.out e3.key (by decide)
    rw [may_key (show e3 ∈ sml by simp [sml])] at h
    exact h)
  have HSMA : Hid (∀ W, Calls Tryd.prog 43 #[] W (fun e w' => ∃ b, e = .returned (.slice (some ⟨b, 0, none⟩) 3 3) ∧ C8 w' b ∧ Below W.heap.size W w')) := Lib.hid (fun W => small_two W)
  clear hT HO HT4 HTO hx4 HX2
  go_wp2_with fail
  refine (HG9.out _ (Below.refl _ _)).mono ?_
  rintro r w5 ⟨rfl, hb5⟩
  have HK5 := Lib.hid hb5
  clear hb5 c0 c1 c2 c3 c4 c5 c6 c7
  have hxa : (w5.alloc (.cells #[.string ⟨#[97]⟩, .string ⟨#[120]⟩, .int .u64 5, .bool false] 33)).heap[w5.heap.size]? = some (.cells #[.string ⟨#[97]⟩, .string ⟨#[120]⟩, .int .u64 5, .bool false] 33 (0, 0)) := heap_alloc_new _ _
  have HXA := Lib.hid hxa
  have HK6 : Hid (Below w4.heap.size w4 (w5.alloc (.cells #[.string ⟨#[97]⟩, .string ⟨#[120]⟩, .int .u64 5, .bool false] 33))) := Lib.hid (HK5.out.alloc HK5.out.size _)
  clear hxa
  go_wp2_with fail
  refine (HG4.out _ HK6.out).mono ?_
  rintro r w7 ⟨rfl, hb7⟩
  have HXA7 : Hid (w7.heap[w5.heap.size]? = some (.cells #[.string ⟨#[97]⟩, .string ⟨#[120]⟩, .int .u64 5, .bool false] 33 (0, 0))) := Lib.hid ((hb7.block _ (heap_lt HXA.out)).trans HXA.out)
  have HK7 : Hid (Below w4.heap.size w4 w7) := Lib.hid (HK6.out.trans (hb7.mono HK6.out.size))
  clear hb7 HXA
  go_wp2_with fail
  have hxb : (w7.alloc (.cells #[.string ⟨#[97]⟩, .string ⟨#[]⟩, .int .u64 3, .bool true] 33)).heap[w7.heap.size]? = some (.cells #[.string ⟨#[97]⟩, .string ⟨#[]⟩, .int .u64 3, .bool true] 33 (0, 0)) := heap_alloc_new _ _
  have HXB := Lib.hid hxb
  have HXA8 : Hid ((w7.alloc (.cells #[.string ⟨#[97]⟩, .string ⟨#[]⟩, .int .u64 3, .bool true] 33)).heap[w5.heap.size]? = some (.cells #[.string ⟨#[97]⟩, .string ⟨#[120]⟩, .int .u64 5, .bool false] 33 (0, 0))) := Lib.hid ((RowKit.Below.heap_alloc w7 _ _ (heap_lt HXA7.out)).trans HXA7.out)
  have HK8 : Hid (Below w4.heap.size w4 (w7.alloc (.cells #[.string ⟨#[97]⟩, .string ⟨#[]⟩, .int .u64 3, .bool true] 33))) := Lib.hid (HK7.out.alloc HK7.out.size _)
  clear hxb HXA7
  refine (HG2.out _ HK8.out).mono ?_
  rintro r w9 ⟨rfl, hb9⟩
  have hA9 : AwT w9 w5.heap.size w7.heap.size := AwT.of (w := w7.alloc (.cells #[.string ⟨#[97]⟩, .string ⟨#[]⟩, .int .u64 3, .bool true] 33)) ⟨cell_of HXA8.out, cell_of HXA8.out, cell_of HXA8.out, cell_of HXA8.out, cell_of HXB.out, cell_of HXB.out, cell_of HXB.out, cell_of HXB.out⟩ hb9 (heap_lt HXA8.out) (heap_lt HXB.out)
  have HK9 : Hid (Below w4.heap.size w4 w9) := Lib.hid (HK8.out.trans (hb9.mono HK8.out.size))
  have k1 : w5.heap.size < w9.heap.size := Nat.lt_of_lt_of_le (heap_lt HXA8.out) hb9.size
  have k2 : w7.heap.size < w9.heap.size := Nat.lt_of_lt_of_le (heap_lt HXB.out) hb9.size
  clear hb9 HXB HXA8 HK8 HK7 HK6 HK5 HG9 HG4 HG2
  have hbz : Below w9.heap.size w9 (w9.alloc (.cells #[.string ⟨#[]⟩, .string ⟨#[]⟩, .int .u64 0, .bool false] 33)) := box_below _ _
  have hAZ : AwT (w9.alloc (.cells #[.string ⟨#[]⟩, .string ⟨#[]⟩, .int .u64 0, .bool false] 33)) w5.heap.size w7.heap.size := AwT.of hA9 hbz k1 k2
  have HKZ : Hid (Below w4.heap.size w4 (w9.alloc (.cells #[.string ⟨#[]⟩, .string ⟨#[]⟩, .int .u64 0, .bool false] 33))) := Lib.hid (nx HK9.out hbz)
  have kz1 : w5.heap.size < (w9.alloc (.cells #[.string ⟨#[]⟩, .string ⟨#[]⟩, .int .u64 0, .bool false] 33)).heap.size := Nat.lt_of_lt_of_le k1 hbz.size
  have kz2 : w7.heap.size < (w9.alloc (.cells #[.string ⟨#[]⟩, .string ⟨#[]⟩, .int .u64 0, .bool false] 33)).heap.size := Nat.lt_of_lt_of_le k2 hbz.size
  clear hA9 hbz k1 k2 HK9
  go_wp2_with fail
  generalize w9.alloc (.cells #[.string ⟨#[]⟩, .string ⟨#[]⟩, .int .u64 0, .bool false] 33) = WZ at *
  have HAZ := Lib.hid hAZ
  obtain ⟨a0, a1, a2, a3, b0, b1, b2, b3⟩ := (show AwT WZ.drew _ _ from hAZ)
  clear hAZ
  have HK : Hid (∀ W, Below WZ.drew.heap.size WZ.drew W → AwT W w5.heap.size w7.heap.size) := Lib.hid (fun W hb => AwT.of (w := WZ.drew) HAZ.out hb kz1 kz2)
  have HW : Hid (∀ W, Below WZ.drew.heap.size WZ.drew W → Below w4.heap.size w4 W) := Lib.hid (fun W hb => nx HKZ.out ⟨hb.os, hb.tape, hb.output, hb.size, hb.block⟩)
  refine wp_region_held_drew (S := fun w' => AwT w' w5.heap.size w7.heap.size) (by kernel_rfl) HAZ.out (fun hS => ?_)
  refine wpAnyH_take (i := 0) (v := ?v0) rfl (by kernel_rfl) (by kernel_rfl) (by kernel_rfl) (fun _ _ _ h => h) (Or.inl ⟨by kernel_rfl, ?y0⟩) hS ?_; case y0 => (rintro w' ⟨s0, s1, s2, s3, s4, s5, s6, s7⟩; go_simp; try with_reducible rfl)
  simp only [Act.put, List.setIfInBounds_toArray, List.set_cons_zero, List.set_cons_succ, List.getElem_toArray, List.getElem_cons_zero]
  refine wpAnyH_ready (rs := [1]) (by kernel_rfl) (by simp) ?_
  refine AllReadyH.cons rfl (fun K hK => ?_) AllReadyH.nil
  go_simp
  refine (HSMA.out _).mono ?_
  rintro e wA ⟨bA, rfl, ⟨m0, m1, m2, m3, m4, m5, m6, m7⟩, hb1⟩
  have hS1 := HK.out _ hb1
  go_wp2_with fail
  refine hK.out _ _ hS1 (fun _ => ?_)
  clear hK K
  try simp only [Act.put, List.setIfInBounds_toArray, List.set_cons_zero, List.set_cons_succ, List.getElem_toArray, List.getElem_cons_zero, List.getElem_cons_succ]
  refine wpAnyH_take (i := 2) (v := ?v2) rfl (by kernel_rfl) (by kernel_rfl) (by kernel_rfl) (fun _ _ _ h => h) (Or.inl ⟨by kernel_rfl, ?y2⟩) hS1 ?_; case y2 => (rintro w' ⟨s0, s1, s2, s3, s4, s5, s6, s7⟩; go_simp; try with_reducible rfl)
  simp only [Act.put, List.setIfInBounds_toArray, List.set_cons_zero, List.set_cons_succ, List.getElem_toArray, List.getElem_cons_zero, List.getElem_cons_succ]
  refine wpAnyH_ready (rs := [3]) (by kernel_rfl) (by simp) ?_
  refine AllReadyH.cons rfl (fun K hK => ?_) AllReadyH.nil
  go_simp
  go_wp2_with fail
  refine hK.out _ _ hS1 (fun _ => ?_)
  clear hK K
  try simp only [Act.put, List.setIfInBounds_toArray, List.set_cons_zero, List.set_cons_succ, List.getElem_toArray, List.getElem_cons_zero, List.getElem_cons_succ]
  clear m0 m1 m2 m3 m4 m5 m6 m7
  refine wpAnyH_take (i := 4) (v := ?v4) rfl (by kernel_rfl) (by kernel_rfl) (by kernel_rfl) (fun _ _ _ h => h) (Or.inl ⟨by kernel_rfl, ?y4⟩) hS1 ?_; case y4 => (rintro w' ⟨s0, s1, s2, s3, s4, s5, s6, s7⟩; go_simp; try with_reducible rfl)
  simp only [Act.put, List.setIfInBounds_toArray, List.set_cons_zero, List.set_cons_succ, List.getElem_toArray, List.getElem_cons_zero, List.getElem_cons_succ]
  refine wpAnyH_take (i := 5) (v := ?v5) rfl (by kernel_rfl) (by kernel_rfl) (by kernel_rfl) (fun _ _ _ h => h) (Or.inl ⟨by kernel_rfl, ?y5⟩) hS1 ?_; case y5 => (rintro w' ⟨s0, s1, s2, s3, s4, s5, s6, s7⟩; go_simp; try with_reducible rfl)
  simp only [Act.put, List.setIfInBounds_toArray, List.set_cons_zero, List.set_cons_succ, List.getElem_toArray, List.getElem_cons_zero, List.getElem_cons_succ]
  refine wpAnyH_take (i := 6) (v := ?v6) rfl (by kernel_rfl) (by kernel_rfl) (by kernel_rfl) (fun _ _ _ h => h) (Or.inl ⟨by kernel_rfl, ?y6⟩) hS1 ?_; case y6 => (rintro w' ⟨s0, s1, s2, s3, s4, s5, s6, s7⟩; go_simp; try with_reducible rfl)
  simp only [Act.put, List.setIfInBounds_toArray, List.set_cons_zero, List.set_cons_succ, List.getElem_toArray, List.getElem_cons_zero, List.getElem_cons_succ]
  refine wpAnyH_take (i := 7) (v := ?v7) rfl (by kernel_rfl) (by kernel_rfl) (by kernel_rfl) (fun _ _ _ h => h) (Or.inl ⟨by kernel_rfl, ?y7⟩) hS1 ?_; case y7 => (rintro w' ⟨s0, s1, s2, s3, s4, s5, s6, s7⟩; go_simp; try with_reducible rfl)
  simp only [Act.put, List.setIfInBounds_toArray, List.set_cons_zero, List.set_cons_succ, List.getElem_toArray, List.getElem_cons_zero, List.getElem_cons_succ]
  refine wpAnyH_take (i := 8) (v := ?v8) rfl (by kernel_rfl) (by kernel_rfl) (by kernel_rfl) (fun _ _ _ h => h) (Or.inl ⟨by kernel_rfl, ?y8⟩) hS1 ?_; case y8 => (rintro w' ⟨s0, s1, s2, s3, s4, s5, s6, s7⟩; go_simp; try with_reducible rfl)
  simp only [Act.put, List.setIfInBounds_toArray, List.set_cons_zero, List.set_cons_succ, List.getElem_toArray, List.getElem_cons_zero, List.getElem_cons_succ]
  refine wpAnyH_take (i := 9) (v := ?v9) rfl (by kernel_rfl) (by kernel_rfl) (by kernel_rfl) (fun _ _ _ h => h) (Or.inl ⟨by kernel_rfl, ?y9⟩) hS1 ?_; case y9 => (rintro w' ⟨s0, s1, s2, s3, s4, s5, s6, s7⟩; go_simp; try with_reducible rfl)
  simp only [Act.put, List.setIfInBounds_toArray, List.set_cons_zero, List.set_cons_succ, List.getElem_toArray, List.getElem_cons_zero, List.getElem_cons_succ]
  refine wpAnyH_ready (rs := [10]) (by kernel_rfl) (by simp) ?_
  refine AllReadyH.cons rfl (fun K hK => ?_) AllReadyH.nil
  go_simp
  refine (HSMA.out _).mono ?_
  rintro e wB ⟨bB, rfl, ⟨n0, n1, n2, n3, n4, n5, n6, n7⟩, hb2⟩
  have hS2 := HK.out _ (nx hb1 hb2)
  go_wp2_with fail
  refine hK.out _ _ hS2 (fun _ => ?_)
  clear hK K
  try simp only [Act.put, List.setIfInBounds_toArray, List.set_cons_zero, List.set_cons_succ, List.getElem_toArray, List.getElem_cons_zero, List.getElem_cons_succ]
  refine wpAnyH_take (i := 11) (v := ?v11) rfl (by kernel_rfl) (by kernel_rfl) (by kernel_rfl) (fun _ _ _ h => h) (Or.inl ⟨by kernel_rfl, ?y11⟩) hS2 ?_; case y11 => (rintro w' ⟨s0, s1, s2, s3, s4, s5, s6, s7⟩; go_simp; try with_reducible rfl)
  simp only [Act.put, List.setIfInBounds_toArray, List.set_cons_zero, List.set_cons_succ, List.getElem_toArray, List.getElem_cons_zero, List.getElem_cons_succ]
  refine wpAnyH_ready (rs := [12]) (by kernel_rfl) (by simp) ?_
  refine AllReadyH.cons rfl (fun K hK => ?_) AllReadyH.nil
  go_simp
  go_wp2_with fail
  refine hK.out _ _ hS2 (fun _ => ?_)
  clear hK K
  try simp only [Act.put, List.setIfInBounds_toArray, List.set_cons_zero, List.set_cons_succ, List.getElem_toArray, List.getElem_cons_zero, List.getElem_cons_succ]
  clear n0 n1 n2 n3 n4 n5 n6 n7
  refine wpAnyH_take (i := 13) (v := ?v13) rfl (by kernel_rfl) (by kernel_rfl) (by kernel_rfl) (fun _ _ _ h => h) (Or.inl ⟨by kernel_rfl, ?y13⟩) hS2 ?_; case y13 => (rintro w' ⟨s0, s1, s2, s3, s4, s5, s6, s7⟩; go_simp; try with_reducible rfl)
  simp only [Act.put, List.setIfInBounds_toArray, List.set_cons_zero, List.set_cons_succ, List.getElem_toArray, List.getElem_cons_zero, List.getElem_cons_succ]
  refine wpAnyH_take (i := 14) (v := ?v14) rfl (by kernel_rfl) (by kernel_rfl) (by kernel_rfl) (fun _ _ _ h => h) (Or.inl ⟨by kernel_rfl, ?y14⟩) hS2 ?_; case y14 => (rintro w' ⟨s0, s1, s2, s3, s4, s5, s6, s7⟩; go_simp; try with_reducible rfl)
  simp only [Act.put, List.setIfInBounds_toArray, List.set_cons_zero, List.set_cons_succ, List.getElem_toArray, List.getElem_cons_zero, List.getElem_cons_succ]
  refine wpAnyH_take (i := 15) (v := ?v15) rfl (by kernel_rfl) (by kernel_rfl) (by kernel_rfl) (fun _ _ _ h => h) (Or.inl ⟨by kernel_rfl, ?y15⟩) hS2 ?_; case y15 => (rintro w' ⟨s0, s1, s2, s3, s4, s5, s6, s7⟩; go_simp; try with_reducible rfl)
  simp only [Act.put, List.setIfInBounds_toArray, List.set_cons_zero, List.set_cons_succ, List.getElem_toArray, List.getElem_cons_zero, List.getElem_cons_succ]
  refine wpAnyH_take (i := 16) (v := ?v16) rfl (by kernel_rfl) (by kernel_rfl) (by kernel_rfl) (fun _ _ _ h => h) (Or.inl ⟨by kernel_rfl, ?y16⟩) hS2 ?_; case y16 => (rintro w' ⟨s0, s1, s2, s3, s4, s5, s6, s7⟩; go_simp; try with_reducible rfl)
  simp only [Act.put, List.setIfInBounds_toArray, List.set_cons_zero, List.set_cons_succ, List.getElem_toArray, List.getElem_cons_zero, List.getElem_cons_succ]
  refine wpAnyH_take (i := 17) (v := ?v17) rfl (by kernel_rfl) (by kernel_rfl) (by kernel_rfl) (fun _ _ _ h => h) (Or.inl ⟨by kernel_rfl, ?y17⟩) hS2 ?_; case y17 => (rintro w' ⟨s0, s1, s2, s3, s4, s5, s6, s7⟩; go_simp; try with_reducible rfl)
  simp only [Act.put, List.setIfInBounds_toArray, List.set_cons_zero, List.set_cons_succ, List.getElem_toArray, List.getElem_cons_zero, List.getElem_cons_succ]
  refine wpAnyH_take (i := 18) (v := ?v18) rfl (by kernel_rfl) (by kernel_rfl) (by kernel_rfl) (fun _ _ _ h => h) (Or.inl ⟨by kernel_rfl, ?y18⟩) hS2 ?_; case y18 => (rintro w' ⟨s0, s1, s2, s3, s4, s5, s6, s7⟩; go_simp; try with_reducible rfl)
  simp only [Act.put, List.setIfInBounds_toArray, List.set_cons_zero, List.set_cons_succ, List.getElem_toArray, List.getElem_cons_zero, List.getElem_cons_succ]
  refine wpAnyH_take (i := 19) (v := ?v19) rfl (by kernel_rfl) (by kernel_rfl) (by kernel_rfl) (fun _ _ _ h => h) (Or.inl ⟨by kernel_rfl, ?y19⟩) hS2 ?_; case y19 => (rintro w' ⟨s0, s1, s2, s3, s4, s5, s6, s7⟩; go_simp; try with_reducible rfl)
  simp only [Act.put, List.setIfInBounds_toArray, List.set_cons_zero, List.set_cons_succ, List.getElem_toArray, List.getElem_cons_zero, List.getElem_cons_succ]
  refine wpAnyH_take (i := 20) (v := ?v20) rfl (by kernel_rfl) (by kernel_rfl) (by kernel_rfl) (fun _ _ _ h => h) (Or.inl ⟨by kernel_rfl, ?y20⟩) hS2 ?_; case y20 => (rintro w' ⟨s0, s1, s2, s3, s4, s5, s6, s7⟩; go_simp; try with_reducible rfl)
  simp only [Act.put, List.setIfInBounds_toArray, List.set_cons_zero, List.set_cons_succ, List.getElem_toArray, List.getElem_cons_zero, List.getElem_cons_succ]
  refine wpAnyH_take (i := 21) (v := ?v21) rfl (by kernel_rfl) (by kernel_rfl) (by kernel_rfl) (fun _ _ _ h => h) (Or.inl ⟨by kernel_rfl, ?y21⟩) hS2 ?_; case y21 => (rintro w' ⟨s0, s1, s2, s3, s4, s5, s6, s7⟩; go_simp; try with_reducible rfl)
  simp only [Act.put, List.setIfInBounds_toArray, List.set_cons_zero, List.set_cons_succ, List.getElem_toArray, List.getElem_cons_zero, List.getElem_cons_succ]
  refine wpAnyH_take (i := 22) (v := ?v22) rfl (by kernel_rfl) (by kernel_rfl) (by kernel_rfl) (fun _ _ _ h => h) (Or.inl ⟨by kernel_rfl, ?y22⟩) hS2 ?_; case y22 => (rintro w' ⟨s0, s1, s2, s3, s4, s5, s6, s7⟩; go_simp; try with_reducible rfl)
  simp only [Act.put, List.setIfInBounds_toArray, List.set_cons_zero, List.set_cons_succ, List.getElem_toArray, List.getElem_cons_zero, List.getElem_cons_succ]
  refine wpAnyH_take (i := 23) (v := ?v23) rfl (by kernel_rfl) (by kernel_rfl) (by kernel_rfl) (fun _ _ _ h => h) (Or.inl ⟨by kernel_rfl, ?y23⟩) hS2 ?_; case y23 => (rintro w' ⟨s0, s1, s2, s3, s4, s5, s6, s7⟩; go_simp; try with_reducible rfl)
  simp only [Act.put, List.setIfInBounds_toArray, List.set_cons_zero, List.set_cons_succ, List.getElem_toArray, List.getElem_cons_zero, List.getElem_cons_succ]
  refine wpAnyH_ready (rs := [24]) (by kernel_rfl) (by simp) ?_
  refine AllReadyH.cons rfl (fun K hK => ?_) AllReadyH.nil
  go_simp
  refine (HRG.out _ (HW.out _ (nx hb1 hb2))).mono ?_
  rintro e wC ⟨aC, cC, rfl, hb3⟩
  have hS3 := HK.out _ (nx (nx hb1 hb2) hb3)
  go_wp2_with fail
  refine hK.out _ _ hS3 (fun _ => ?_)
  clear hK K
  try simp only [Act.put, List.setIfInBounds_toArray, List.set_cons_zero, List.set_cons_succ, List.getElem_toArray, List.getElem_cons_zero, List.getElem_cons_succ]
  refine wpAnyH_take (i := 25) (v := ?v25) rfl (by kernel_rfl) (by kernel_rfl) (by kernel_rfl) (fun _ _ _ h => h) (Or.inl ⟨by kernel_rfl, ?y25⟩) hS3 ?_; case y25 => (rintro w' ⟨s0, s1, s2, s3, s4, s5, s6, s7⟩; go_simp; try with_reducible rfl)
  simp only [Act.put, List.setIfInBounds_toArray, List.set_cons_zero, List.set_cons_succ, List.getElem_toArray, List.getElem_cons_zero, List.getElem_cons_succ]
  refine wpAnyH_take (i := 26) (v := ?v26) rfl (by kernel_rfl) (by kernel_rfl) (by kernel_rfl) (fun _ _ _ h => h) (Or.inl ⟨by kernel_rfl, ?y26⟩) hS3 ?_; case y26 => (rintro w' ⟨s0, s1, s2, s3, s4, s5, s6, s7⟩; go_simp; try with_reducible rfl)
  simp only [Act.put, List.setIfInBounds_toArray, List.set_cons_zero, List.set_cons_succ, List.getElem_toArray, List.getElem_cons_zero, List.getElem_cons_succ]
  refine wpAnyH_take (i := 27) (v := ?v27) rfl (by kernel_rfl) (by kernel_rfl) (by kernel_rfl) (fun _ _ _ h => h) (Or.inl ⟨by kernel_rfl, ?y27⟩) hS3 ?_; case y27 => (rintro w' ⟨s0, s1, s2, s3, s4, s5, s6, s7⟩; go_simp; try with_reducible rfl)
  simp only [Act.put, List.setIfInBounds_toArray, List.set_cons_zero, List.set_cons_succ, List.getElem_toArray, List.getElem_cons_zero, List.getElem_cons_succ]
  refine wpAnyH_take (i := 28) (v := ?v28) rfl (by kernel_rfl) (by kernel_rfl) (by kernel_rfl) (fun _ _ _ h => h) (Or.inl ⟨by kernel_rfl, ?y28⟩) hS3 ?_; case y28 => (rintro w' ⟨s0, s1, s2, s3, s4, s5, s6, s7⟩; go_simp; try with_reducible rfl)
  simp only [Act.put, List.setIfInBounds_toArray, List.set_cons_zero, List.set_cons_succ, List.getElem_toArray, List.getElem_cons_zero, List.getElem_cons_succ]
  refine wpAnyH_take (i := 29) (v := ?v29) rfl (by kernel_rfl) (by kernel_rfl) (by kernel_rfl) (fun _ _ _ h => h) (Or.inl ⟨by kernel_rfl, ?y29⟩) hS3 ?_; case y29 => (rintro w' ⟨s0, s1, s2, s3, s4, s5, s6, s7⟩; go_simp; try with_reducible rfl)
  simp only [Act.put, List.setIfInBounds_toArray, List.set_cons_zero, List.set_cons_succ, List.getElem_toArray, List.getElem_cons_zero, List.getElem_cons_succ]
  refine wpAnyH_ready (rs := [30]) (by kernel_rfl) (by simp) ?_
  refine AllReadyH.cons rfl (fun K hK => ?_) AllReadyH.nil
  go_simp
  refine (HAL.out _ (HW.out _ (nx (nx hb1 hb2) hb3))).mono ?_
  rintro e wD ⟨aD, cD, rfl, hb4⟩
  have hS4 := HK.out _ (nx (nx (nx hb1 hb2) hb3) hb4)
  go_wp2_with fail
  refine hK.out _ _ hS4 (fun _ => ?_)
  clear hK K
  try simp only [Act.put, List.setIfInBounds_toArray, List.set_cons_zero, List.set_cons_succ, List.getElem_toArray, List.getElem_cons_zero, List.getElem_cons_succ]
  refine wpAnyH_take (i := 31) (v := ?v31) rfl (by kernel_rfl) (by kernel_rfl) (by kernel_rfl) (fun _ _ _ h => h) (Or.inl ⟨by kernel_rfl, ?y31⟩) hS4 ?_; case y31 => (rintro w' ⟨s0, s1, s2, s3, s4, s5, s6, s7⟩; go_simp; try with_reducible rfl)
  simp only [Act.put, List.setIfInBounds_toArray, List.set_cons_zero, List.set_cons_succ, List.getElem_toArray, List.getElem_cons_zero, List.getElem_cons_succ]
  refine wpAnyH_take (i := 32) (v := ?v32) rfl (by kernel_rfl) (by kernel_rfl) (by kernel_rfl) (fun _ _ _ h => h) (Or.inl ⟨by kernel_rfl, ?y32⟩) hS4 ?_; case y32 => (rintro w' ⟨s0, s1, s2, s3, s4, s5, s6, s7⟩; go_simp; try with_reducible rfl)
  simp only [Act.put, List.setIfInBounds_toArray, List.set_cons_zero, List.set_cons_succ, List.getElem_toArray, List.getElem_cons_zero, List.getElem_cons_succ]
  refine wpAnyH_take (i := 33) (v := ?v33) rfl (by kernel_rfl) (by kernel_rfl) (by kernel_rfl) (fun _ _ _ h => h) (Or.inl ⟨by kernel_rfl, ?y33⟩) hS4 ?_; case y33 => (rintro w' ⟨s0, s1, s2, s3, s4, s5, s6, s7⟩; go_simp; try with_reducible rfl)
  simp only [Act.put, List.setIfInBounds_toArray, List.set_cons_zero, List.set_cons_succ, List.getElem_toArray, List.getElem_cons_zero, List.getElem_cons_succ]
  refine wpAnyH_take (i := 34) (v := ?v34) rfl (by kernel_rfl) (by kernel_rfl) (by kernel_rfl) (fun _ _ _ h => h) (Or.inl ⟨by kernel_rfl, ?y34⟩) hS4 ?_; case y34 => (rintro w' ⟨s0, s1, s2, s3, s4, s5, s6, s7⟩; go_simp; try with_reducible rfl)
  simp only [Act.put, List.setIfInBounds_toArray, List.set_cons_zero, List.set_cons_succ, List.getElem_toArray, List.getElem_cons_zero, List.getElem_cons_succ]
  refine wpAnyH_take (i := 35) (v := ?v35) rfl (by kernel_rfl) (by kernel_rfl) (by kernel_rfl) (fun _ _ _ h => h) (Or.inl ⟨by kernel_rfl, ?y35⟩) hS4 ?_; case y35 => (rintro w' ⟨s0, s1, s2, s3, s4, s5, s6, s7⟩; go_simp; try with_reducible rfl)
  simp only [Act.put, List.setIfInBounds_toArray, List.set_cons_zero, List.set_cons_succ, List.getElem_toArray, List.getElem_cons_zero, List.getElem_cons_succ]
  refine wpAnyH_ready (rs := [36]) (by kernel_rfl) (by simp) ?_
  refine AllReadyH.cons rfl (fun K hK => ?_) AllReadyH.nil
  go_simp
  refine (HMY.out _ (HW.out _ (nx (nx (nx hb1 hb2) hb3) hb4))).mono ?_
  rintro e wE ⟨rfl, hb5⟩
  have hS5 := HK.out _ (nx (nx (nx (nx hb1 hb2) hb3) hb4) hb5)
  go_wp2_with fail
  refine hK.out _ _ hS5 (fun _ => ?_)
  clear hK K
  try simp only [Act.put, List.setIfInBounds_toArray, List.set_cons_zero, List.set_cons_succ, List.getElem_toArray, List.getElem_cons_zero, List.getElem_cons_succ]
  refine wpAnyH_take (i := 37) (v := ?v37) rfl (by kernel_rfl) (by kernel_rfl) (by kernel_rfl) (fun _ _ _ h => h) (Or.inl ⟨by kernel_rfl, ?y37⟩) hS5 ?_; case y37 => (rintro w' ⟨s0, s1, s2, s3, s4, s5, s6, s7⟩; go_simp; try with_reducible rfl)
  simp only [Act.put, List.setIfInBounds_toArray, List.set_cons_zero, List.set_cons_succ, List.getElem_toArray, List.getElem_cons_zero, List.getElem_cons_succ]
  refine wpAnyH_take (i := 38) (v := ?v38) rfl (by kernel_rfl) (by kernel_rfl) (by kernel_rfl) (fun _ _ _ h => h) (Or.inl ⟨by kernel_rfl, ?y38⟩) hS5 ?_; case y38 => (rintro w' ⟨s0, s1, s2, s3, s4, s5, s6, s7⟩; go_simp; try with_reducible rfl)
  simp only [Act.put, List.setIfInBounds_toArray, List.set_cons_zero, List.getElem_toArray, List.getElem_cons_zero, List.getElem_cons_succ]
  refine wpAnyH_done (by kernel_rfl) ?_ _
  have RB : Hid (Below w.heap.size w wE) := Lib.hid (nx HB4.out (HW.out _ (nx (nx (nx (nx hb1 hb2) hb3) hb4) hb5)))
  clear hb1 hb2 hb3 hb4 hb5 hS hS1 hS2 hS3 hS4 hS5
  go_wp2_with fail
  go_ret
  refine ⟨?_, RB.out⟩
  first
    | rfl
    | kernel_rfl
    | (simp; done)
end Go.Proofs.YtphoihkbdogkhaaDoor.Bn.Tw
