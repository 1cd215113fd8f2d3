/- Entries as law 11 keeps them; the walk of its Same. -/
import Derived.Test.YtjpmcphfiiiecaaBoArgs
import Derived.Test.YtjpmcphfiiiecaaBlockOnly
namespace Go.Proofs.Ytjpmcphfiiiecaa.Bo
open Go Go.RowKit
set_option linter.unusedVariables false

def cellsN (x : En) : List Value := [.string x.key, .string x.val]
theorem info_ent : (Try.prog.info? 51).map (fun i => (i.zero, i.size, i.bytes)) = some (some (.agg #[.string ⟨#[]⟩, .string ⟨#[]⟩]), 2, 32) := by kernel_rfl
/-- Entries that are a call's own, from a block on. -/
def OwnsN (w : World) (base : Nat) (v : Value) (l : List En) : Prop := w.ownsRow base 51 2 v l.length (l.flatMap cellsN)
theorem OwnsN.nil (w : World) (base : Nat) : OwnsN w base (.slice none 0 0) [] := World.ownsRow_nil ..
theorem OwnsN.below {w w' : World} {base : Nat} {v : Value} {l : List En} (h : OwnsN w base v l) (hb : Below w.heap.size w w') : OwnsN w' base v l := ownsRow_below h hb
theorem OwnsN.shape {w : World} {base : Nat} {v : Value} {l : List En} (h : OwnsN w base v l) : ∃ a c, v = .slice a l.length c := row_any h
theorem OwnsN.snoc {w' : World} {base : Nat} {v' : Value} {l : List En} {x : En} (h : w'.ownsRow base 51 2 v' (l.length + 1) (l.flatMap cellsN ++ [.string x.key, .string x.val])) : OwnsN w' base v' (l ++ [x]) := by
  unfold OwnsN
  rw [List.length_append, List.flatMap_append, List.flatMap_singleton]
  exact h
theorem cellsN_at : ∀ (l : List En) (i : Nat) (x : En), l[i]? = some x → (l.flatMap cellsN)[i * 2]? = some (.string x.key) ∧ (l.flatMap cellsN)[i * 2 + 1]? = some (.string x.val)
  | [], _, _, h => by simp at h
  | r :: l, 0, x, h => by
    simp only [List.getElem?_cons_zero, Option.some.injEq] at h
    subst h
    simp [cellsN]
  | r :: l, i + 1, x, h => by
    simp only [List.getElem?_cons_succ] at h
    obtain ⟨h0, h1⟩ := cellsN_at l i x h
    have e : ∀ j, ((r :: l).flatMap cellsN)[(i + 1) * 2 + j]? = (l.flatMap cellsN)[i * 2 + j]? := by
      intro j
      rw [List.flatMap_cons, List.getElem?_append_right (by simp [cellsN]; omega)]
      congr 1
      simp [cellsN]; omega
    exact ⟨(e 0).trans h0, (e 1).trans h1⟩
/-- Entries that lie in memory. -/
def SeesN (w : World) (a : Option Addr) (l : List En) : Prop := ∀ i x, l[i]? = some x → ∃ g, a = some ⟨g, 0, none⟩ ∧ g < w.heap.size ∧ w.cell? ⟨g, i * 2, none⟩ = some (.string x.key) ∧ w.cell? ⟨g, i * 2 + 1, none⟩ = some (.string x.val)
theorem OwnsN.sees {w : World} {base : Nat} {a : Option Addr} {n c : Nat} {l : List En} (h : OwnsN w base (.slice a n c) l) : SeesN w a l := by
  intro i x hi
  have hlt := (List.getElem?_eq_some_iff.1 hi).1
  obtain ⟨g, cap, e, h1, h2, h3, h4, h5⟩ := row_shape h (by omega)
  simp only [Value.slice.injEq] at e
  obtain ⟨k0, k1⟩ := cellsN_at l i x hi
  exact ⟨g, e.1, h2, h5 _ _ k0, h5 _ _ k1⟩
theorem SeesN.below {w w' : World} {a : Option Addr} {l : List En} (h : SeesN w a l) (hb : Below w.heap.size w w') : SeesN w' a l := by
  intro i x hi
  obtain ⟨g, e, hlt, c0, c1⟩ := h i x hi
  exact ⟨g, e, Nat.lt_of_lt_of_le hlt hb.size, (hb.cell (p := ⟨g, _, none⟩) hlt).trans c0, (hb.cell (p := ⟨g, _, none⟩) hlt).trans c1⟩

/-- The box of what is wanted. -/
structure Want (w0 : World) (x : En) (w' : World) : Prop where
  h : w'.heap[w0.heap.size]? = some (.cells #[.string x.key, .string x.val] 51 (0, 0))
  hb : Below w0.heap.size w0 w'
theorem Want.new (w : World) (x : En) : Want w x (w.alloc (.cells #[.string x.key, .string x.val] 51)) := ⟨heap_alloc_new w _, (Below.refl _ _).alloc (Nat.le_refl _) _⟩
theorem Want.set {w0 w' : World} {x : En} (h : Want w0 x w') (y : En) : Want w0 y (set2 w' w0.heap.size (.string y.key) (.string y.val)) := ⟨set2_heap _ _ h.h, set2_below _ _ h.hb (Nat.le_refl _)⟩
theorem Want.cells {w0 w' : World} {x : En} (h : Want w0 x w') : w'.cell? ⟨w0.heap.size, 0, none⟩ = some (.string x.key) ∧ w'.cell? ⟨w0.heap.size, 1, none⟩ = some (.string x.val) ∧ w'.frozen? ⟨w0.heap.size, 0, none⟩ = false ∧ w'.frozen? ⟨w0.heap.size, 1, none⟩ = false :=
  ⟨by rw [cell_of h.h]; rfl, by rw [cell_of h.h]; rfl, unfrozen_of h.h 0, unfrozen_of h.h 1⟩

set_option maxHeartbeats 4000000 in
set_option maxRecDepth 100000 in
theorem same_yes {w : World} {b0 p : Nat} {v : Value} {rs : List Row} (h : Blk w b0 p v rs) (hv : ∀ x ∈ rs, x.2.val.size ≤ 1000000000) (a : Option Addr) (n c : Nat) (l : List En) (hs : SeesN w a l) (hl : l.length = n) (he : rs.map Prod.snd = l) (hn : n ≤ 1000000) :
    Calls Try.prog 22 #[.pointer (some ⟨p, 0, none⟩), .slice a n c] w (Gives (.bool true) w) := by
  have HLEN := Lib.hid (len_any h)
  rw [show rs.length = n by rw [← hl, ← he, List.length_map]] at HLEN
  have HAT := Lib.hid (fun W (hb : Below w.heap.size w W) i => at_any (h.below hb) i hv)
  rw [he] at HAT
  have HS := Lib.hid hs; have HL := Lib.hid hl
  clear h hv hs hl he
  go_enter Try.func22, Try.ntmps22
  go_wp2_with fail
  refine HLEN.out.mono ?_
  rintro e w1 ⟨rfl, rfl⟩
  clear HLEN
  go_wp2_with fail
  go_loopw [5] (fun i wr => ∃ (j : Int), -1 ≤ j ∧ j ≤ n + 1 ∧ i = .int .i64 j ∧ Hid (Below w.heap.size w wr)) (fun i _ => ((n : Int) + 2 - intOf i).toNat)
  case atStart => exact ⟨-1, by omega, by omega, rfl, Lib.hid (Below.refl _ _)⟩
  case round =>
    obtain ⟨j, hj1, hj2, rfl, HB⟩ := hrel
    have HA := Lib.hid (HAT.out wr HB.out j)
    by_cases hend : j = n + 1
    · have h1 : ¬ j ≤ n := by omega
      clear hend
      go_wp2_with fail
      go_ret
      exact ⟨rfl, HB.out⟩
    · have hle : j ≤ n := by omega
      by_cases hneg : j = -1
      · subst hneg
        have hat : atV l (-1) = .tuple #[.string ⟨#[]⟩, .string ⟨#[]⟩, .bool false] := by unfold atV; rw [if_pos (by decide)]
        rw [hat] at HA
        clear hat hend
        go_wp2_with fail
        refine HA.out.mono ?_
        rintro e w2 ⟨rfl, hb2⟩
        have HB2 := Lib.hid (HB.out.trans (hb2.mono HB.out.size))
        clear hb2
        go_wp2_with fail
        go_roundw
        case rel => exact ⟨0, by omega, by omega, rfl, Lib.hid (HB2.out.alloc HB2.out.size _)⟩
        case measure => simp [intOf]; omega
      · obtain ⟨k, rfl⟩ : ∃ k : Nat, j = (k : Int) := ⟨j.toNat, by omega⟩
        have hk0 : (0 : Int) ≤ k := by omega
        by_cases hkn : k < n
        · obtain ⟨x, hx⟩ : ∃ x, l[k]? = some x := ⟨_, List.getElem?_eq_getElem (by rw [HL.out]; exact hkn)⟩
          have hat : atV l (k : Int) = .tuple #[.string x.key, .string x.val, .bool true] := by unfold atV; rw [if_neg (by omega), Int.toNat_natCast, hx]
          rw [hat] at HA
          have hkni : (k : Int) < n := by omega
          obtain ⟨g, rfl, hg, c0, c1⟩ := HS.out k x hx
          have HG := Lib.hid hg; have HC0 := Lib.hid c0; have HC1 := Lib.hid c1
          obtain ⟨key, val⟩ := x
          dsimp only at HA
          clear hat hx hg c0 c1 hneg hend hj1 hj2
          go_wp2_with fail
          refine HA.out.mono ?_
          rintro e w2 ⟨rfl, hb2⟩
          have HB2 := Lib.hid (HB.out.trans (hb2.mono HB.out.size))
          have HW := Lib.hid (Want.new w2 ⟨⟨#[]⟩, ⟨#[]⟩⟩)
          have HB3 : Hid (Below w.heap.size w (w2.alloc (.cells #[.string ⟨#[]⟩, .string ⟨#[]⟩] 51))) := Lib.hid (HB2.out.alloc HB2.out.size _)
          have d0 : (w2.alloc (.cells #[.string ⟨#[]⟩, .string ⟨#[]⟩] 51)).cell? ⟨g, k * 2, none⟩ = some (.string key) := (HB3.out.cell (p := ⟨g, _, none⟩) HG.out).trans HC0.out
          have d1 : (w2.alloc (.cells #[.string ⟨#[]⟩, .string ⟨#[]⟩] 51)).cell? ⟨g, k * 2 + 1, none⟩ = some (.string val) := (HB3.out.cell (p := ⟨g, _, none⟩) HG.out).trans HC1.out
          clear hb2
          go_wp2_with fail
          go_roundw
          case rel => exact ⟨(k : Int) + 1, by omega, by omega, rfl, Lib.hid (HB2.out.alloc HB2.out.size _)⟩
          case measure => simp [intOf]; omega
        · obtain rfl : k = n := by omega
          have hat : atV l (k : Int) = .tuple #[.string ⟨#[]⟩, .string ⟨#[]⟩, .bool false] := by
            unfold atV
            rw [if_neg (by omega), Int.toNat_natCast, List.getElem?_eq_none (by rw [HL.out]; omega)]
          rw [hat] at HA
          clear hat hneg hend hj1 hj2
          go_wp2_with fail
          refine HA.out.mono ?_
          rintro e w2 ⟨rfl, hb2⟩
          have HB2 := Lib.hid (HB.out.trans (hb2.mono HB.out.size))
          clear hb2
          go_wp2_with fail
          go_roundw
          case rel => exact ⟨(k : Int) + 1, by omega, by omega, rfl, Lib.hid (HB2.out.alloc HB2.out.size _)⟩
          case measure => simp [intOf]; omega
end Go.Proofs.Ytjpmcphfiiiecaa.Bo
