/- Acts that came in, as a list; the walk of law 11's Great. -/
import Derived.Test.YtjpmcphfiiiecaaBoK
import Derived.ProofKit
import Derived.OpenShut
import Derived.ShutString
import Derived.ChangeOld
import Derived.SliceStrings
import Derived.Deep.Slices
import Derived.Deep.Fields
namespace Go.Proofs.Ytjpmcphfiiiecaa.Bo
open Go Go.RowKit Go.ChangeShapes Go.WideShapes Go.ChangeAt
set_option linter.unusedVariables false

structure Ac where
  d : Nat
  e : En
/-- Acts that lie in memory. -/
def SeesA (w : World) (v : Value) (l : List Ac) : Prop :=
  (l = [] ∧ ∃ a cap, v = .slice a 0 cap) ∨ ∃ b off cap, v = .slice (some ⟨b, off, none⟩) l.length cap ∧ b < w.heap.size ∧ ∀ i x, l[i]? = some x → (x.d < 256 ∧ x.e.key.size ≤ maxLen ∧ x.e.val.size ≤ maxLen) ∧
    w.cell? ⟨b, off + i * 3, none⟩ = some (.int .u8 (x.d : Int)) ∧ w.cell? ⟨b, off + i * 3 + 1, none⟩ = some (.string x.e.key) ∧ w.cell? ⟨b, off + i * 3 + 2, none⟩ = some (.string x.e.val)
theorem SeesA.shape {w : World} {v : Value} {l : List Ac} (h : SeesA w v l) : ∃ a cap, v = .slice a l.length cap := by
  rcases h with ⟨rfl, a, cap, rfl⟩ | ⟨b, off, cap, rfl, _⟩ <;> exact ⟨_, _, rfl⟩
theorem SeesA.len {w : World} {a : Option Addr} {n cap : Nat} {l : List Ac} (h : SeesA w (.slice a n cap) l) : l.length = n := by
  obtain ⟨_, _, e⟩ := h.shape
  simp only [Value.slice.injEq] at e
  exact e.2.1.symm
theorem SeesA.below {w w' : World} {v : Value} {l : List Ac} (h : SeesA w v l) (hb : Below w.heap.size w w') : SeesA w' v l := by
  rcases h with h | ⟨b, off, cap, rfl, hlt, hc⟩
  · exact Or.inl h
  · refine Or.inr ⟨b, off, cap, rfl, Nat.lt_of_lt_of_le hlt hb.size, fun i x hi => ?_⟩
    obtain ⟨hf, c0, c1, c2⟩ := hc i x hi
    exact ⟨hf, (hb.cell (p := ⟨b, _, none⟩) hlt).trans c0, (hb.cell (p := ⟨b, _, none⟩) hlt).trans c1, (hb.cell (p := ⟨b, _, none⟩) hlt).trans c2⟩
/-- One of them. -/
theorem SeesA.get {w : World} {ao : Option Addr} {n cap : Nat} {l : List Ac} (h : SeesA w (.slice ao n cap) l) {i : Nat} {x : Ac} (hi : l[i]? = some x) : ∃ b off, ao = some ⟨b, off, none⟩ ∧ b < w.heap.size ∧ (x.d < 256 ∧ x.e.key.size ≤ maxLen ∧ x.e.val.size ≤ maxLen) ∧
    w.cell? ⟨b, off + i * 3, none⟩ = some (.int .u8 (x.d : Int)) ∧ w.cell? ⟨b, off + i * 3 + 1, none⟩ = some (.string x.e.key) ∧ w.cell? ⟨b, off + i * 3 + 2, none⟩ = some (.string x.e.val) := by
  rcases h with ⟨rfl, _⟩ | ⟨b, off, c, e, hb, hc⟩
  · simp at hi
  · simp only [Value.slice.injEq] at e
    obtain ⟨rfl, rfl, rfl⟩ := e
    obtain ⟨h1, h2⟩ := hc i x hi
    exact ⟨b, off, rfl, hb, h1, h2⟩

theorem list_ofA {Q : Nat → Ac → Prop} : ∀ n : Nat, (∀ i, i < n → ∃ p, Q i p) → ∃ ps : List Ac, ps.length = n ∧ ∀ i x, ps[i]? = some x → Q i x
  | 0, _ => ⟨[], rfl, fun i x hi => by simp at hi⟩
  | n + 1, h => by
    obtain ⟨ps, hl, hq⟩ := list_ofA n (fun i hi => h i (by omega))
    obtain ⟨p, hp⟩ := h n (by omega)
    refine ⟨ps ++ [p], by simp [hl], fun i x hi => ?_⟩
    by_cases e : i < n
    · rw [List.getElem?_append_left (by omega)] at hi
      exact hq i x hi
    · rw [List.getElem?_append_right (by omega)] at hi
      by_cases e2 : i = n
      · subst e2
        rw [hl, Nat.sub_self] at hi
        obtain rfl : p = x := by simpa using hi
        exact hp
      · exfalso
        rw [List.getElem?_eq_none (by simp; omega)] at hi
        cases hi
theorem addPlain (b off k : Nat) : (⟨b, off, none⟩ : Addr).add k = ⟨b, off + k, none⟩ := by unfold Addr.add; split <;> simp_all

set_option maxRecDepth 100000 in
set_option maxHeartbeats 1000000 in
theorem seesA_of {H : Type} {enc : TypeId × Value → H} {W : World} {a : Option Addr} {len cap : Nat} {d : DataW H} {p : List MemPlace} (h : DataW.Trod enc Try.prog W 0 (fun _ => true) true 37 (.slice a len cap) d p) :
    ∃ ps : List Ac, SeesA W (.slice a len cap) ps := by
  obtain ⟨fuel, hf⟩ := h
  rcases Deep.open_slice Try.underlying37 hf with ⟨hcs, _⟩ | ⟨x, l, c, m, n, D, Pl, hcs, _, hlc, hcm, hm, _, hel⟩
  · simp [Value.cells] at hcs
    obtain ⟨rfl, rfl, rfl⟩ := hcs
    exact ⟨[], Or.inl ⟨rfl, none, 0, rfl⟩⟩
  · simp [Value.cells] at hcs
    obtain ⟨rfl, rfl, rfl⟩ := hcs
    have hmc : m = cap := by rw [hm]; simp
    have h3 : Try.prog.cellsOf 41 = 3 := by kernel_rfl
    have hu1 : Try.prog.cellsOf 5 = 1 := by kernel_rfl
    have hs1 : Try.prog.cellsOf 9 = 1 := by kernel_rfl
    have key : ∀ i, i < len → ∃ q : Ac, (q.d < 256 ∧ q.e.key.size ≤ maxLen ∧ q.e.val.size ≤ maxLen) ∧ W.cell? ((x.add (i * 3)).add 0) = some (.int .u8 (q.d : Int)) ∧ W.cell? ((x.add (i * 3)).add 1) = some (.string q.e.key) ∧ W.cell? ((x.add (i * 3)).add 2) = some (.string q.e.val) := by
      intro i hi
      obtain ⟨cs', hc, ht⟩ := hel i (by omega)
      rw [h3] at hc
      obtain ⟨_, hcl, hat⟩ := World.cells?_some hc
      obtain ⟨xs, n', _, _, _, hxl, hfd⟩ := DataW.trod_struct Try.underlying41 ht
      match cs', hcl with
      | [c0, c1, c2], _ =>
        match xs, hxl with
        | [y0, y1, y2], _ =>
          have f0 : DataW.trod enc Try.prog W 0 (fun _ => true) true n' 5 (([c0, c1, c2].drop 0).take (Try.prog.cellsOf 5)) = some y0 := hfd 0 _ rfl
          have f1 : DataW.trod enc Try.prog W 0 (fun _ => true) true n' 9 (([c0, c1, c2].drop 1).take (Try.prog.cellsOf 9)) = some y1 := hfd 1 _ rfl
          have f2 : DataW.trod enc Try.prog W 0 (fun _ => true) true n' 9 (([c0, c1, c2].drop 2).take (Try.prog.cellsOf 9)) = some y2 := hfd 2 _ rfl
          rw [hu1] at f0
          rw [hs1] at f1 f2
          obtain ⟨n2', e2, _, w2⟩ := DataW.trod_int Try.underlying5 f0
          obtain ⟨s0, e0, _, z0⟩ := DataW.trod_string Try.underlying9 f1
          obtain ⟨s1, e1, _, z1⟩ := DataW.trod_string Try.underlying9 f2
          have k0 : c0 = .int .u8 n2' := by simpa using e2
          have k1 : c1 = .string s0 := by simpa using e0
          have k2 : c2 = .string s1 := by simpa using e1
          subst k0 k1 k2
          have hr := bounds_u8 w2
          refine ⟨⟨n2'.toNat, ⟨s0, s1⟩⟩, ⟨by show n2'.toNat < _; omega, ?_, ?_⟩, ?_, hat 1 (by omega), hat 2 (by omega)⟩
          · exact z0
          · exact z1
          · rw [Int.toNat_of_nonneg (by omega)]
            exact hat 0 (by omega)
    by_cases h0 : len = 0
    · subst h0
      exact ⟨[], Or.inl ⟨rfl, _, _, rfl⟩⟩
    · obtain ⟨b, off, spot⟩ := x
      have hspot : spot = none := by
        obtain ⟨q, _, hq, _⟩ := key 0 (by omega)
        simpa [Addr.add] using World.cell?_spot hq
      subst hspot
      have key2 : ∀ i, i < len → ∃ q : Ac, (q.d < 256 ∧ q.e.key.size ≤ maxLen ∧ q.e.val.size ≤ maxLen) ∧ W.cell? ⟨b, off + i * 3, none⟩ = some (.int .u8 (q.d : Int)) ∧ W.cell? ⟨b, off + i * 3 + 1, none⟩ = some (.string q.e.key) ∧ W.cell? ⟨b, off + i * 3 + 2, none⟩ = some (.string q.e.val) := by
        intro i hi
        obtain ⟨q, hq, k0, k1, k2⟩ := key i hi
        rw [addPlain, addPlain] at k0 k1 k2
        exact ⟨q, hq, k0, k1, k2⟩
      obtain ⟨ps, hl, hps⟩ := list_ofA len key2
      have hb : b < W.heap.size := by
        obtain ⟨q, _, hq, _⟩ := key2 0 (by omega)
        exact World.block_lt_of_cell? _ _ hq
      exact ⟨ps, Or.inr ⟨b, off, cap, by rw [hl], hb, fun i x hx => hps i x hx⟩⟩

/-- How many bytes acts have in all. -/
def sizA : List Ac → Nat
  | [] => 0
  | x :: l => x.e.key.size + x.e.val.size + sizA l
theorem sizA_take : ∀ (l : List Ac) (k : Nat), sizA (l.take k) ≤ sizA l
  | [], k => by simp [sizA]
  | x :: l, 0 => by simp [sizA]
  | x :: l, k + 1 => by have := sizA_take l k; simp only [List.take_succ_cons, sizA]; omega
theorem sizA_snoc : ∀ (l : List Ac) (k : Nat) (x : Ac), l[k]? = some x → sizA (l.take (k + 1)) = sizA (l.take k) + (x.e.key.size + x.e.val.size)
  | [], k, x, h => by simp at h
  | y :: l, 0, x, h => by
    simp only [List.getElem?_cons_zero, Option.some.injEq] at h
    subst h
    simp [sizA]
  | y :: l, k + 1, x, h => by
    have := sizA_snoc l k x (by simpa using h)
    rw [List.take_succ_cons, List.take_succ_cons, sizA, sizA, this]
    omega
def greatA (l : List Ac) : Bool := decide (120 < l.length) || decide (12000 < sizA l)

set_option maxHeartbeats 2000000 in
set_option maxRecDepth 100000 in
theorem great_any (a : Option Addr) (n c : Nat) (l : List Ac) (w : World) (h : SeesA w (.slice a n c) l) :
    Calls Try.prog 18 #[.slice a n c] w (Gives (.bool (greatA l)) w) := by
  have hl := h.len
  by_cases h120 : (120 : Int) < n
  · have e : greatA l = true := by unfold greatA; rw [decide_eq_true (by rw [hl]; omega)]; rfl
    rw [e]
    clear h hl e
    go_enter Try.func18, Try.ntmps18
    go_wp2_with fail
    go_ret
    exact ⟨rfl, Below.refl _ _⟩
  · have HG : Hid (greatA l = decide (12000 < sizA l)) := Lib.hid (by unfold greatA; rw [decide_eq_false (by rw [hl]; omega)]; rfl)
    have HH := Lib.hid h
    have HL := Lib.hid hl
    have hn : n ≤ 120 := by omega
    clear h hl
    go_enter Try.func18, Try.ntmps18
    go_wp2_with fail
    go_loopw [3, 4] (fun z i wr => ∃ (k q : Nat), k ≤ n ∧ z = .int .i64 q ∧ i = .int .i64 k ∧ Hid (q = sizA (l.take k)) ∧ q ≤ 24000 * k ∧ Hid (Below w.heap.size w wr)) (fun _ i _ => n - (intOf i).toNat)
    case atStart => exact ⟨0, 0, Nat.zero_le _, rfl, rfl, Lib.hid (by simp [sizA]), by omega, Lib.hid (Below.refl _ _)⟩
    case round =>
      obtain ⟨k, q, hk, rfl, rfl, HQ, hq, HB⟩ := hrel
      by_cases hlt : k < n
      · obtain ⟨x, hx⟩ : ∃ x, l[k]? = some x := ⟨_, List.getElem?_eq_getElem (by rw [HL.out]; exact hlt)⟩
        obtain ⟨b, off, rfl, hb, ⟨hd, hz1, hz2⟩, k0, k1, k2⟩ := HH.out.get hx
        have c1 : wr.cell? ⟨b, off + k * 3 + 1, none⟩ = some (.string x.e.key) := (HB.out.cell (p := ⟨b, _, none⟩) hb).trans k1
        have c2 : wr.cell? ⟨b, off + k * 3 + 2, none⟩ = some (.string x.e.val) := (HB.out.cell (p := ⟨b, _, none⟩) hb).trans k2
        have hkn : (k : Int) < n := by omega
        have HS := Lib.hid (sizA_snoc l k x hx)
        have HST := Lib.hid (sizA_take l (k + 1))
        obtain ⟨d, ⟨key, val⟩⟩ := x
        dsimp only at *
        clear k0 k1 k2 hx hd
        by_cases hk1 : (12000 : Int) < key.size
        · have HT : Hid (greatA l = true) := Lib.hid (by rw [HG.out]; exact decide_eq_true (by have := HS.out; have := HST.out; omega))
          clear hz1 hz2
          go_wp2_with fail
          go_ret
          rw [HT.out]
          exact ⟨rfl, HB.out⟩
        · by_cases hv1 : (12000 : Int) < val.size
          · have HT : Hid (greatA l = true) := Lib.hid (by rw [HG.out]; exact decide_eq_true (by have := HS.out; have := HST.out; omega))
            clear hz1 hz2
            go_wp2_with fail
            go_ret
            rw [HT.out]
            exact ⟨rfl, HB.out⟩
          · clear hz1 hz2
            go_wp2_with fail
            go_region
            go_wp2_with fail
            go_roundw
            case rel => exact ⟨k + 1, q + key.size + val.size, by omega, by go_num, by go_num, Lib.hid (by rw [HS.out, ← HQ.out]; omega), by omega, Lib.hid HB.out.drew⟩
            case measure => simp [intOf]; omega
      · obtain rfl : k = n := by omega
        have HT : Hid (greatA l = decide (12000 < q)) := Lib.hid (by rw [HG.out, HQ.out, List.take_of_length_le (Nat.le_of_eq HL.out)])
        by_cases hs : (12000 : Int) < q
        · have HT2 : Hid (greatA l = true) := Lib.hid (by rw [HT.out]; exact decide_eq_true (by omega))
          go_wp2_with fail
          go_ret
          rw [HT2.out]
          exact ⟨rfl, HB.out⟩
        · have HT2 : Hid (greatA l = false) := Lib.hid (by rw [HT.out]; exact decide_eq_false (by omega))
          go_wp2_with fail
          go_ret
          rw [HT2.out]
          exact ⟨rfl, HB.out⟩
end Go.Proofs.Ytjpmcphfiiiecaa.Bo
