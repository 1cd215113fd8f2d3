/- The walks of law 9's Great, unlike. -/
import Derived.Test.YtmdnmabbphnhaaaMmArg
import Derived.Test.YtmdnmabbphnhaaaMmH
import Derived.Deep.QuietTactic
import Derived.BigQuiet
namespace Go.Proofs.Ytmdnmabbphnhaaa.Mm
open Go Go.RowKit Go.Proofs.Ytmdnmabbphnhaaa.Sk Go.Proofs.Ytmdnmabbphnhaaa.Sm
set_option linter.unusedVariables false

/-- What statements go through. -/
def SmallQ (l : List Pu) : Prop := l.length ≤ 100 ∧ ∀ x ∈ l, Fit x.e
def GreatSaid (l : List Pu) (w : World) (e : Ending) (w' : World) : Prop := ∃ b, e = .returned (.bool b) ∧ Below w.heap.size w w' ∧ (b = false → SmallQ l)
set_option maxHeartbeats 4000000 in
set_option maxRecDepth 100000 in
theorem great_any {ao : Option Addr} {n cap : Nat} {l : List Pu} (w : World) (h : SeesQ w (.slice ao n cap) l) : Calls Try.prog 5 #[.slice ao n cap] w (GreatSaid l w) := by
  have HL : Hid (l.length = n) := Lib.hid h.len
  have HS := Lib.hid h; clear h
  by_cases hg : 100 < n
  · go_enter Try.func5, Try.ntmps5
    go_wp2_with fail
    go_ret
    exact ⟨true, rfl, Below.refl _ _, fun h => by cases h⟩
  · have hg2 : (n : Int) ≤ 100 := by omega
    go_enter Try.func5, Try.ntmps5
    go_wp2_with fail
    go_loopw [3, 4] (fun m i wr => ∃ (k : Nat) (M : Int), k ≤ n ∧ i = .int .i64 (k : Int) ∧ m = .int .i64 M ∧ 0 ≤ M ∧ M ≤ (k : Int) * 40000 ∧ Hid (Below w.heap.size w wr) ∧ Hid (∀ i x, i < k → l[i]? = some x → Fit x.e)) (fun _ i _ => n - (intOf i).toNat)
    case atStart => exact ⟨0, 0, Nat.zero_le _, rfl, rfl, by omega, by omega, Lib.hid (Below.refl _ _), Lib.hid (fun i x hi => by omega)⟩
    case round =>
      obtain ⟨k, M, hk, rfl, rfl, hM0, hM1, HB, HX⟩ := hrel
      by_cases hkn : k < n
      · obtain ⟨x, hx⟩ : ∃ x, l[k]? = some x := ⟨l[k]'(by rw [HL.out]; exact hkn), List.getElem?_eq_getElem _⟩
        obtain ⟨b, off, rfl, hb, hsq, c0, c1, _⟩ := (HS.out.below HB.out).get hx
        have HXX := Lib.hid hx
        have HSQ := Lib.hid hsq.1
        obtain ⟨key, hkey⟩ : ∃ key, key = x.e.key := ⟨_, rfl⟩
        obtain ⟨val, hval⟩ : ∃ val, val = x.e.val := ⟨_, rfl⟩
        rw [← hkey] at c0
        rw [← hval] at c1
        have HK := Lib.hid hkey; have HV := Lib.hid hval
        clear hx hkey hval hsq
        have hki : (k : Int) < n := by omega
        by_cases h1 : 20000 < key.size
        · go_wp2_with fail
          go_ret
          exact ⟨true, rfl, HB.out, fun h => by cases h⟩
        · by_cases h2 : 20000 < val.size
          · have h1' : (key.size : Int) ≤ 20000 := by omega
            go_wp2_with fail
            go_ret
            exact ⟨true, rfl, HB.out, fun h => by cases h⟩
          · have h1' : (key.size : Int) ≤ 20000 := by omega
            have h2' : (val.size : Int) ≤ 20000 := by omega
            go_wp2_with fail
            go_quiet (fail)
            go_wp2_with fail
            go_roundw
            case rel => exact ⟨k + 1, M + key.size + val.size, by omega, by go_num, by go_num, by omega, by omega, Lib.hid (below_drewN HB.out _), Lib.hid (fun i y hi hy => by
                by_cases e : i = k
                · subst e
                  have := HXX.out.symm.trans hy
                  obtain rfl := Option.some.inj this
                  exact ⟨by rw [← HK.out]; omega, by rw [← HV.out]; omega, HSQ.out⟩
                · exact HX.out i y (by omega) hy)⟩
            case measure => simp [intOf]; omega
      · obtain rfl : k = n := by omega
        go_wp2_with fail
        go_ret
        refine ⟨_, rfl, HB.out, fun _ => ⟨by rw [HL.out]; omega, fun x hx => ?_⟩⟩
        obtain ⟨i, hi, rfl⟩ := List.getElem_of_mem hx
        exact HX.out i _ (by rw [← HL.out]; exact hi) (List.getElem?_eq_getElem hi)

/-! ### puts of which no two have one key and number -/
abbrev putCells (x : Pu) : List Value := [.string x.e.key, .string x.e.val, .int .u64 (x.e.seq : Int), .bool x.e.gone, .int .i64 x.h]
abbrev rowQ (l : List Pu) : List Value := l.flatMap putCells
def OwnsQ (w : World) (base : Nat) (v : Value) (l : List Pu) : Prop := w.ownsRow base 34 5 v l.length (rowQ l)
theorem rowQ_snoc (l : List Pu) (x : Pu) : rowQ (l ++ [x]) = rowQ l ++ putCells x := by simp [rowQ]
theorem OwnsQ.below {w w' : World} {base : Nat} {v : Value} {l : List Pu} (h : OwnsQ w base v l) (hb : Below w.heap.size w w') : OwnsQ w' base v l := ownsRow_below h hb
theorem rowQ_get {l : List Pu} {i : Nat} {x : Pu} (h : l[i]? = some x) {c : Nat} (hc : c < 5) : (rowQ l)[i * 5 + c]? = (putCells x)[c]? := flat_get (f := putCells) (z := 5) (fun _ => rfl) l i c x h hc
theorem OwnsQ.get {w : World} {base : Nat} {v : Value} {l : List Pu} (h : OwnsQ w base v l) {i : Nat} {x : Pu} (hi : l[i]? = some x) : ∃ g cap, v = .slice (some ⟨g, 0, none⟩) l.length cap ∧ g < w.heap.size ∧ i < l.length ∧
    w.cell? ⟨g, i * 5, none⟩ = some (.string x.e.key) ∧ w.cell? ⟨g, i * 5 + 1, none⟩ = some (.string x.e.val) ∧ w.cell? ⟨g, i * 5 + 2, none⟩ = some (.int .u64 (x.e.seq : Int)) ∧ w.cell? ⟨g, i * 5 + 3, none⟩ = some (.bool x.e.gone) ∧ w.cell? ⟨g, i * 5 + 4, none⟩ = some (.int .i64 x.h) := by
  have hl := (List.getElem?_eq_some_iff.1 hi).1
  obtain ⟨g, cap, hv, _, hg, _, _, hc⟩ := row_shape h (by omega)
  refine ⟨g, cap, hv, hg, hl, hc _ _ ?_, hc _ _ ?_, hc _ _ ?_, hc _ _ ?_, hc _ _ ?_⟩
  · have := rowQ_get hi (c := 0) (by omega)
    rw [Nat.add_zero] at this
    rw [this]; rfl
  · rw [rowQ_get hi (by omega)]; rfl
  · rw [rowQ_get hi (by omega)]; rfl
  · rw [rowQ_get hi (by omega)]; rfl
  · rw [rowQ_get hi (by omega)]; rfl
def alikeQ (x y : Pu) : Prop := x.e.key = y.e.key ∧ x.e.seq = y.e.seq
/-- Puts that may be, each of its own. -/
structure Unlike (l u : List Pu) : Prop where
  sub : ∀ x ∈ u, x ∈ l
  good : ∀ x ∈ u, badE x.e = false
  one : u.Pairwise fun x y => ¬ alikeQ x y
  few : u.length ≤ l.length
theorem info_put : (Try.prog.info? 34).map (fun i => (i.zero, i.size, i.bytes)) = some (some (.agg #[.string ⟨#[]⟩, .string ⟨#[]⟩, .int .u64 0, .bool false, .int .i64 0]), 5, 56) := by kernel_rfl

set_option maxHeartbeats 8000000 in
set_option maxRecDepth 100000 in
theorem unlike_any {ao : Option Addr} {n cap : Nat} {l : List Pu} (w : World) (h : SeesQ w (.slice ao n cap) l) (hs : SmallQ l) :
    Calls Try.prog 19 #[.slice ao n cap] w fun e w' => ∃ v u, e = .returned v ∧ OwnsQ w' w.heap.size v u ∧ Unlike l u ∧ Below w.heap.size w w' := by
  obtain ⟨i0, hi, hz0, hz1, hz2⟩ := info_parts info_put
  have HL : Hid (l.length = n) := Lib.hid h.len
  have hn : (n : Int) ≤ 100 := by have := hs.1; have := HL.out; omega
  have HS := Lib.hid h; clear h
  have HSM := Lib.hid hs; clear hs
  go_enter Try.func19, Try.ntmps19
  go_wp2_with fail
  go_loopw [3, 4] (fun v i wr => ∃ (k : Nat) (u : List Pu), k ≤ n ∧ i = .int .i64 (k : Int) ∧ Hid (OwnsQ wr w.heap.size v u) ∧ Hid (Unlike (l.take k) u) ∧ Hid (Below w.heap.size w wr)) (fun _ i _ => n - (intOf i).toNat)
  case atStart => exact ⟨0, [], Nat.zero_le _, rfl, Lib.hid (World.ownsRow_nil ..), Lib.hid ⟨by simp, by simp, List.Pairwise.nil, by simp⟩, Lib.hid (Below.refl _ _)⟩
  case round =>
    obtain ⟨k, u, hk, rfl, HO, HU, HB⟩ := hrel
    by_cases hkn : k < n
    · obtain ⟨x, hx⟩ : ∃ x, l[k]? = some x := ⟨l[k]'(by rw [HL.out]; exact hkn), List.getElem?_eq_getElem _⟩
      obtain ⟨b, off, rfl, hb, hsq, c0, c1, c2, c3, c4⟩ := (HS.out.below HB.out).get hx
      have HTK : Hid (l.take (k + 1) = l.take k ++ [x]) := Lib.hid (by rw [List.take_add_one, hx]; rfl)
      have HXC := Lib.hid (fun (W : World) (hbw : Below wr.heap.size wr W) => (show W.cell? ⟨b, off + k * 5, none⟩ = some (.string x.e.key) ∧ W.cell? ⟨b, off + k * 5 + 1, none⟩ = some (.string x.e.val) ∧ W.cell? ⟨b, off + k * 5 + 2, none⟩ = some (.int .u64 (x.e.seq : Int)) ∧ W.cell? ⟨b, off + k * 5 + 3, none⟩ = some (.bool x.e.gone) ∧ W.cell? ⟨b, off + k * 5 + 4, none⟩ = some (.int .i64 x.h) from
        ⟨(hbw.cell (p := ⟨b, _, none⟩) hb).trans c0, (hbw.cell (p := ⟨b, _, none⟩) hb).trans c1, (hbw.cell (p := ⟨b, _, none⟩) hb).trans c2, (hbw.cell (p := ⟨b, _, none⟩) hb).trans c3, (hbw.cell (p := ⟨b, _, none⟩) hb).trans c4⟩))
      have hki : (k : Int) < n := by omega
      have HUL : Hid (u.length ≤ 100) := Lib.hid (by have := HU.out.few; rw [List.length_take] at this; omega)
      have hul : (u.length : Int) ≤ 100 := by have := HUL.out; omega
      obtain ⟨ao2, cp2, rfl⟩ := row_any HO.out
      have hbad : (x.e.gone = false ∧ Hid (badE x.e = false)) ∨ (x.e.gone = true ∧ x.e.val.toList.isEmpty = true ∧ Hid (badE x.e = false)) ∨ (x.e.gone = true ∧ x.e.val.toList.isEmpty = false ∧ Hid (badE x.e = true)) := by
        unfold badE
        cases hg : x.e.gone with
        | false => exact Or.inl ⟨rfl, rfl⟩
        | true =>
          right
          by_cases hz : x.e.val.size = 0
          · exact Or.inl ⟨rfl, empty_of hz, Lib.hid (by simp [hz])⟩
          · refine Or.inr ⟨rfl, ?_, Lib.hid (by simp [hz])⟩
            rw [ByteArray.toList_eq]
            cases h2 : x.e.val.data.toList with
            | nil =>
              exfalso
              apply hz
              have h3 : x.e.val.data.toList.length = 0 := by rw [h2]; rfl
              rw [Array.length_toList] at h3
              exact h3
            | cons => rfl
      clear hx hsq c4 c2 c0
      generalize hgn : x.e.gone = gn at *
      have HGN := Lib.hid hgn
      clear hgn
      rcases hbad with ⟨rfl, HBD⟩ | ⟨rfl, hem, HBD⟩ | ⟨rfl, hem, HBD⟩
      all_goals
        go_wp2_with fail
        go_loopw [5, 6] (fun t kk wi => ∃ (j : Nat) (bb : Bool), j ≤ u.length ∧ kk = .int .i64 (j : Int) ∧ t = .bool bb ∧ Hid (bb = false → badE x.e = false ∧ ∀ y ∈ u.take j, ¬ alikeQ y x) ∧ Hid (Below wr.heap.size wr wi)) (fun _ kk _ => u.length - (intOf kk).toNat)
        case atStart => exact ⟨0, _, Nat.zero_le _, rfl, rfl, Lib.hid (fun hf => ⟨(by first | exact HBD.out | (cases hf)), by simp⟩), Lib.hid (Below.refl _ _)⟩
        case round =>
          obtain ⟨j, bb, hj, rfl, rfl, HF, HBI⟩ := hrel
          obtain ⟨d0, d1, d2, d3, d4⟩ := HXC.out _ HBI.out
          have HOI := Lib.hid (HO.out.below HBI.out)
          by_cases hju : j < u.length
          · obtain ⟨y, hy⟩ : ∃ y, u[j]? = some y := ⟨u[j]'hju, List.getElem?_eq_getElem _⟩
            obtain ⟨g, cp3, hsh, hg, _, e0, e1, e2, e3, e4⟩ := HOI.out.get hy
            simp only [Value.slice.injEq] at hsh
            obtain ⟨rfl, _, rfl⟩ := hsh
            have HTU : Hid (u.take (j + 1) = u.take j ++ [y]) := Lib.hid (by rw [List.take_add_one, hy]; rfl)
            have hji : (j : Int) < u.length := by omega
            clear hy hg e1 e3 e4 d1 d3 d4
            have hstep : ∀ bb' : Bool, (bb' = false → bb = false ∧ ¬ alikeQ y x) → Hid (bb' = false → badE x.e = false ∧ ∀ y ∈ u.take (j + 1), ¬ alikeQ y x) := fun bb' h9 => Lib.hid (fun hf => by
              obtain ⟨h1, h2⟩ := h9 hf
              obtain ⟨h3, h4⟩ := HF.out h1
              refine ⟨h3, fun z hz => ?_⟩
              rw [HTU.out] at hz
              rcases List.mem_append.1 hz with h5 | h5
              · exact h4 z h5
              · rw [List.mem_singleton.1 h5]; exact h2)
            have HST := Lib.hid hstep
            clear hstep
            cases bb with
            | true =>
              go_wp2_with fail
              go_quiet (fail)
              go_wp2_with fail
              go_roundw
              case rel => exact ⟨j + 1, true, by omega, by go_num, rfl, HST.out true (fun h => by cases h), Lib.hid (below_drewN HBI.out _)⟩
              case measure => simp [intOf]; omega
            | false =>
              by_cases hke : y.e.key = x.e.key
              · by_cases hse : y.e.seq = x.e.seq
                · rw [hke] at e0
                  rw [hse] at e2
                  clear hke hse
                  go_wp2_with fail
                  go_quiet (fail)
                  go_wp2_with fail
                  go_roundw
                  case rel => exact ⟨j + 1, true, by omega, by go_num, by first | rfl | simp, HST.out true (fun h => by cases h), Lib.hid (below_drewN HBI.out _)⟩
                  case measure => simp [intOf]; omega
                · have hn2 : ¬ alikeQ y x := fun h => hse h.2
                  have HN2 := Lib.hid hn2
                  have hsi : ¬ ((y.e.seq : Nat) : Int) = x.e.seq := by omega
                  rw [hke] at e0
                  clear hke hse hn2
                  go_wp2_with fail
                  go_quiet (fail)
                  go_wp2_with fail
                  go_roundw
                  case rel => exact ⟨j + 1, false, by omega, by go_num, by first | rfl | simp [hsi], HST.out false (fun _ => ⟨(by first | rfl | trivial), HN2.out⟩), Lib.hid (below_drewN HBI.out _)⟩
                  case measure => simp [intOf]; omega
              · have hn2 : ¬ alikeQ y x := fun h => hke h.1
                have HN2 := Lib.hid hn2
                have hkb : (y.e.key.toList == x.e.key.toList) = false := beq_false_of_ne fun e => hke (str_eq e)
                clear hke hn2
                go_wp2_with fail
                go_quiet (fail)
                go_wp2_with fail
                go_roundw
                case rel => exact ⟨j + 1, false, by omega, by go_num, by first | rfl | simp [hkb], HST.out false (fun _ => ⟨(by first | rfl | trivial), HN2.out⟩), Lib.hid (below_drewN HBI.out _)⟩
                case measure => simp [intOf]; omega
          · obtain rfl : j = u.length := by omega
            have hub : u.take u.length = u := List.take_of_length_le (Nat.le_refl _)
            rw [hub] at HF
            have HUS : Hid (Unlike (l.take k) u → Unlike (l.take (k + 1)) u) := Lib.hid (fun h => ⟨fun z hz => by rw [HTK.out]; exact List.mem_append_left _ (h.sub z hz), h.good, h.one, Nat.le_trans h.few (by rw [HTK.out, List.length_append]; omega)⟩)
            clear hub hju
            cases bb with
            | true =>
              go_wp2_with fail
              go_roundw
              case rel => exact ⟨k + 1, u, by omega, by go_num, HOI, Lib.hid (HUS.out HU.out), Lib.hid (Below.next HB.out HBI.out)⟩
              case measure => simp [intOf]; omega
            | false =>
              obtain ⟨h1, h2⟩ := HF.out rfl
              have HUN : Hid (Unlike (l.take (k + 1)) (u ++ [x])) := Lib.hid ⟨fun z hz => by
                  rw [HTK.out]
                  rcases List.mem_append.1 hz with h5 | h5
                  · exact List.mem_append_left _ (HU.out.sub z h5)
                  · exact List.mem_append_right _ h5, fun z hz => by
                  rcases List.mem_append.1 hz with h5 | h5
                  · exact HU.out.good z h5
                  · rw [List.mem_singleton.1 h5]; exact h1, by
                  rw [List.pairwise_append]
                  exact ⟨HU.out.one, List.pairwise_singleton _ _, fun a ha b hb => by rw [List.mem_singleton.1 hb]; exact h2 a ha⟩, by
                  have := HU.out.few
                  rw [HTK.out, List.length_append, List.length_append]
                  simp only [List.length_singleton]
                  omega⟩
              have hraw : wr.ownsRow w.heap.size 34 5 (.slice ao2 u.length cp2) u.length (rowQ u) := HOI.out
              have hzi := HBI.out.size
              have hzr := HB.out.size
              clear h1 h2
              go_wp2_with (at_builtin; go_must (refine wpList_append_own _ rfl _ _ 22 rfl w.heap.size 34 i0 _ 5 56 Try.underlying22 hi hz0 hz1 hz2 rfl (by decide) _ _ _ rfl (ownsRow_below hraw (alloc_below wr _)) ⟨wr.heap.size, 0, none⟩ 1 1 (putCells x) rfl rfl ?c1 ?c2 ?c3 ?c4 ?c5 ?_))
              case c1 =>
                intro j v hv
                unfold putCells at hv
                rw [HGN.out] at hv
                exact hv
              case c2 => exact ⟨rfl, rfl, rfl, rfl, rfl⟩
              case c3 => unfold maxLen; omega
              case c4 => omega
              case c5 => omega
              intro v' w1 hown' hgrow _
              have hR : OwnsQ w1 w.heap.size v' (u ++ [x]) ∧ Below w.heap.size w w1 := by
                refine ⟨?_, ((Below.next HB.out HBI.out).alloc (Nat.le_trans hzr hzi) _).grown hgrow (by simp; omega) (fun q hq => (World.ownsRow.lt hraw q hq).1)⟩
                unfold OwnsQ
                rw [List.length_append, rowQ_snoc]
                exact hown'
              have HR := Lib.hid hR
              clear hown' hgrow hraw hR
              go_wp2_with fail
              go_roundw
              case rel => exact ⟨k + 1, u ++ [x], by omega, by go_num, Lib.hid HR.out.1, HUN, Lib.hid HR.out.2⟩
              case measure => simp [intOf]; omega
    · obtain rfl : k = n := by omega
      have e1 : l.take k = l := List.take_of_length_le (by rw [HL.out]; exact Nat.le_refl _)
      rw [e1] at HU
      go_wp2_with fail
      go_ret
      exact ⟨_, u, rfl, HO.out, HU.out, HB.out⟩
end Go.Proofs.Ytmdnmabbphnhaaa.Mm
