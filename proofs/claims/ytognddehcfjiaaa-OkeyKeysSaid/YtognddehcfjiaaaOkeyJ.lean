/- Walks of layer 2's statements' own helpers: Great, Given, plain. -/
import Derived.Test.YtognddehcfjiaaaOkeyI
namespace Go.Proofs.Ytognddehcfjiaaa
open Go.RowKit
set_option linter.unusedVariables false

/-- Are parts more than statements go through? -/
def greatP (ps : List Pt) : Bool := decide (60 < ps.length) || (ps.any fun p => decide (5000 < p.s.size)) || decide (5000 < sizl ps)

theorem greatP_no {ps : List Pt} (h : greatP ps = false) : ps.length ≤ 60 ∧ (∀ i, (ps.getD i pd).s.size ≤ 5000) ∧ sizl ps ≤ 5000 := by
  unfold greatP at h
  simp only [Bool.or_eq_false_iff, decide_eq_false_iff_not] at h
  obtain ⟨⟨h1, h2⟩, h3⟩ := h
  refine ⟨by omega, fun i => ?_, by omega⟩
  by_cases hi : i < ps.length
  · have e : ps.getD i pd = ps[i] := by simp [hi]
    rw [e]
    have := List.any_eq_false.1 h2 ps[i] (List.getElem_mem hi)
    simp at this
    omega
  · have e : ps.getD i pd = pd := by simp [hi]
    rw [e]; decide

set_option maxHeartbeats 400000 in
theorem great_long (ao : Option Addr) (len cap : Nat) (w : World) (h : 60 < len) :
    Calls Try.prog 16 #[.slice ao len cap] w fun e w' => e = .returned (.bool true) ∧ w = w' := by
  go_enter Try.func16, Try.ntmps16
  go_wp2_with fail
  go_ret
  exact ⟨rfl, rfl⟩

set_option maxHeartbeats 1000000 in
theorem great_any (ao : Option Addr) (len cap : Nat) (ps : List Pt) (w : World) (hV : SeesP w (.slice ao len cap) ps) :
    Calls Try.prog 16 #[.slice ao len cap] w fun e w' => e = .returned (.bool (greatP ps)) ∧ w = w' := by
  obtain ⟨hlen, b, off, hcell⟩ := hV.get
  clear hV
  by_cases h60 : 60 < len
  · have e : greatP ps = true := by unfold greatP; simp; omega
    rw [e]
    exact great_long ao len cap w h60
  · have hl : len ≤ 60 := by omega
    have HC := Lib.hid hcell; have HLEN := Lib.hid hlen
    have HG : Hid (∀ k, k ≤ len → (∀ j, j < k → (ps.getD j pd).s.size ≤ 5000) → sizl (ps.take k) ≤ 5000 * k) := by
      intro k
      induction k with
      | zero => intro _ _; simp [sizl]
      | succ k ih =>
        intro hk hj
        have h1 := ih (by omega) (fun j hjk => hj j (by omega))
        have h2 := hj k (by omega)
        rw [sizl_snoc ps k (by omega)]
        omega
    have HT : Hid (∀ k, k < len → 5000 < (ps.getD k pd).s.size → greatP ps = true) := by
      intro k hk hx
      have e : ps.getD k pd = ps[k]'(by omega) := by simp [show k < ps.length by omega]
      have : (ps.any fun p => decide (5000 < p.s.size)) = true := List.any_eq_true.2 ⟨ps[k]'(by omega), List.getElem_mem _, by rw [← e]; exact decide_eq_true hx⟩
      unfold greatP; rw [this]; simp
    have HF : Hid ((∀ j, j < len → (ps.getD j pd).s.size ≤ 5000) → greatP ps = decide ((5000 : Int) < (sizl ps : Nat))) := by
      intro h
      have : (ps.any fun p => decide (5000 < p.s.size)) = false := by
        rw [List.any_eq_false]
        intro s hs
        obtain ⟨i, hi, rfl⟩ := List.getElem_of_mem hs
        have := h i (by omega)
        have e : ps.getD i pd = ps[i] := by simp [hi]
        rw [e] at this
        simp; omega
      unfold greatP; rw [this, decide_eq_false (by omega)]
      simp only [Bool.false_or]
      congr 1
      exact propext ⟨fun h => by omega, fun h => by omega⟩
    generalize hGB : greatP ps = G at *
    clear hcell hlen h60 hGB
    go_enter Try.func16, Try.ntmps16
    go_wp2_with fail
    go_loop [3, 4] (fun n i => ∃ (k m : Nat), k ≤ len ∧ i = .int .i64 k ∧ n = .int .i64 m ∧ m = sizl (ps.take k) ∧ ∀ j, j < k → (ps.getD j pd).s.size ≤ 5000) (fun _ i => len - (intOf i).toNat)
    case atStart => exact ⟨0, 0, Nat.zero_le _, rfl, rfl, by simp [sizl], fun j hj => by omega⟩
    case round =>
      obtain ⟨k, m, hk, rfl, rfl, hm, hj⟩ := hrel
      have hmk : m ≤ 5000 * k := by rw [hm]; exact HG.out k hk hj
      have HM := Lib.hid hm; have HJ := Lib.hid hj; clear hm hj
      by_cases hlt : k < len
      · obtain ⟨rfl, hbl, hcl⟩ := HC.out k hlt
        obtain ⟨c0, c1, c2⟩ := hcl
        have HS : Hid (sizl (ps.take (k + 1)) = sizl (ps.take k) + (ps.getD k pd).s.size) := sizl_snoc ps k (by rw [HLEN.out]; exact hlt)
        have HTk := Lib.hid (HT.out k hlt)
        have HJ2 : Hid ((ps.getD k pd).s.size ≤ 5000 → ∀ j, j < k + 1 → (ps.getD j pd).s.size ≤ 5000) := fun h j hj => by
          by_cases e : j = k
          · rw [e]; exact h
          · exact HJ.out j (by omega)
        generalize ps.getD k pd = x at *
        obtain ⟨xt, x, xn⟩ := x
        dsimp only at c0 c1 c2 HS HTk HJ2
        by_cases hx : 5000 < x.size
        · go_wp2_with fail
          go_ret
          rw [HTk.out hx]
          exact ⟨rfl, rfl⟩
        · have hx2 : x.size ≤ 5000 := by omega
          clear hx
          go_wp2_with fail
          go_round
          case rel => exact ⟨k + 1, m + x.size, by omega, by go_num, by go_num, by rw [HS.out, HM.out], HJ2.out hx2⟩
          case measure => simp [intOf]; omega
      · obtain rfl : k = len := by omega
        have HE : Hid (m = sizl ps) := by rw [HM.out, List.take_of_length_le (by rw [HLEN.out]; omega)]; exact rfl
        go_wp2_with fail
        go_ret
        rw [HF.out HJ.out, ← HE.out]
        exact ⟨rfl, rfl⟩

/-- Parts of the call's own come back. -/
def GaveP (ps : List Pt) (w : World) (e : Ending) (w' : World) : Prop := ∃ v, e = .returned v ∧ OwnsP w' w.heap.size v ps ∧ Below w.heap.size w w'

theorem take_snocP (ps : List Pt) (k : Nat) (h : k < ps.length) : ps.take (k + 1) = ps.take k ++ [ps.getD k pd] := by
  have e : ps.getD k pd = ps[k] := by simp [h]
  rw [List.take_succ_eq_append_getElem h, e]

set_option maxRecDepth 100000 in
set_option maxHeartbeats 2000000 in
theorem given_any (ao : Option Addr) (len cap : Nat) (ps : List Pt) (w : World) (hV : SeesP w (.slice ao len cap) ps) (hl : len ≤ 1000000) :
    Calls Try.prog 19 #[.slice ao len cap] w (GaveP ps w) := by
  obtain ⟨i0, hi, hz0, hz1, hz2⟩ := info_parts info_part
  obtain ⟨hlen, b, off, hcell⟩ := hV.get
  have HC := Lib.hid hcell; have HLEN := Lib.hid hlen; clear hV hcell hlen
  go_enter Try.func19, Try.ntmps19
  go_wp2_with fail
  go_loopw [3, 4] (fun u i wr => ∃ k : Nat, k ≤ len ∧ i = .int .i64 k ∧ OwnsP wr w.heap.size u (ps.take k) ∧ Below w.heap.size w wr) (fun _ i _ => len - (intOf i).toNat)
  case atStart => exact ⟨0, Nat.zero_le _, rfl, by simpa using OwnsP.nil w w.heap.size, Below.refl _ _⟩
  case round =>
    obtain ⟨k, hk, rfl, hown, hbel⟩ := hrel
    have hsz := hbel.size
    by_cases hlt : k < len
    · obtain ⟨rfl, hba, hpa⟩ := HC.out k hlt
      obtain ⟨c0, c1, c2⟩ := hpa.below hbel hba
      have hk' : k < ps.length := by rw [HLEN.out]; exact hlt
      have HT : Hid (ps.take (k + 1) = ps.take k ++ [ps.getD k pd]) := take_snocP ps k hk'
      have HTL : Hid ((ps.take k).length ≤ 1000000) := by
        have h2 : (ps.take k).length ≤ k := List.length_take_le ..
        exact Lib.hid (by omega)
      clear hpa hk'
      generalize ps.getD k pd = x at *
      generalize ps.take k = T at *
      obtain ⟨xt, xs, xn⟩ := x
      dsimp only at c0 c1 c2
      have hraw : wr.ownsRow w.heap.size 28 3 u3 T.length (T.flatMap cellsP) := hown
      clear hown
      have hob : u3.ownBlock ≠ some b := fun e => by
        have := hraw.lt _ e
        omega
      have hbw : b < wr.heap.size := by omega
      have hk0 : (0 : Int) ≤ (k : Int) := by omega
      have hk1 : (k : Int) < (len : Int) := by omega
      go_wp2_with fail
      go_region_held3 (fun w' => w'.cell? ⟨b, off + k * 3, none⟩ = some (.bool xt) ∧ w'.cell? ⟨b, off + k * 3 + 1, none⟩ = some (.string xs) ∧ w'.cell? ⟨b, off + k * 3 + 2, none⟩ = some (.int .u64 xn))
        (first
          | go_keep
          | (go_split_ands
             refine ⟨?_, ?_, ?_⟩
             · (rw [hgrow.cell_far _ (by simp; omega) (Ne.symm hob)]; assumption)
             · (rw [hgrow.cell_far _ (by simp; omega) (Ne.symm hob)]; assumption)
             · (rw [hgrow.cell_far _ (by simp; omega) (Ne.symm hob)]; assumption)))
        ((refine step_append_lies _ (by rfl) _ _ _ (by rfl) w.heap.size 28 i0 _ 3 32 Try.underlying22 hi hz0 hz1 hz2 rfl (by omega) u3 _ _ (by rfl) ((hraw.alloc _).drew)
            ⟨wr.heap.size, 0, none⟩ 1 1 [.bool xt, .string xs, .int .u64 xn] (by rfl) (by rfl) (World.news_of_block (cs := #[.bool xt, .string xs, .int .u64 xn]) (t := 28) (fr := (0, 0)) (heap_alloc_new wr _)) (by simp [Value.oneCell'])
            (by omega) (by have := HTL.out; unfold maxLen; omega) (by have := HTL.out; omega) (by simp; omega) (wr.heap.size + 1) (by simp) ?_; intro gg cap w1 hown1 hgrow hat hlt1))
      have R1 : OwnsP w1 w.heap.size (.slice (some ⟨gg, 0, none⟩) (T.length + 1) cap) (ps.take (k + 1)) ∧ Below w.heap.size w w1 := by
        rw [HT.out]
        exact ⟨OwnsP.snoc hown1, ((hbel.alloc hsz _).drew).grown hgrow (by simp; omega) (fun q hq => (hraw.lt q hq).1)⟩
      clear hown1 hgrow hraw hat
      go_wp2_with fail
      go_roundw
      case rel => exact ⟨k + 1, by omega, by go_num, R1.1, R1.2⟩
      case measure => simp [intOf]; omega
    · go_wp2_with fail
      go_ret
      have : ps.take k = ps := List.take_of_length_le (by rw [HLEN.out]; omega)
      rw [this] at hown
      exact ⟨_, rfl, hown, hbel⟩

/-- A part without what is no matter. -/
def plainP (p : Pt) : Pt := if p.t = true then ⟨true, p.s, 0⟩ else ⟨false, ⟨#[]⟩, p.n⟩

set_option maxRecDepth 100000 in
set_option maxHeartbeats 2000000 in
theorem plain_any (ao : Option Addr) (len cap : Nat) (ps : List Pt) (w : World) (hV : SeesP w (.slice ao len cap) ps) (hl : len ≤ 1000000) :
    Calls Try.prog 23 #[.slice ao len cap] w (GaveP (ps.map plainP) w) := by
  obtain ⟨i0, hi, hz0, hz1, hz2⟩ := info_parts info_part
  obtain ⟨hlen, b, off, hcell⟩ := hV.get
  have HC := Lib.hid hcell; have HLEN := Lib.hid hlen; clear hV hcell hlen
  go_enter Try.func23, Try.ntmps23
  go_wp2_with fail
  go_loopw [3, 4] (fun u i wr => ∃ k : Nat, k ≤ len ∧ i = .int .i64 k ∧ OwnsP wr w.heap.size u ((ps.take k).map plainP) ∧ Below w.heap.size w wr) (fun _ i _ => len - (intOf i).toNat)
  case atStart => exact ⟨0, Nat.zero_le _, rfl, by simpa using OwnsP.nil w w.heap.size, Below.refl _ _⟩
  case round =>
    obtain ⟨k, hk, rfl, hown, hbel⟩ := hrel
    have hsz := hbel.size
    by_cases hlt : k < len
    · obtain ⟨rfl, hba, hpa⟩ := HC.out k hlt
      obtain ⟨c0, c1, c2⟩ := hpa.below hbel hba
      have hk' : k < ps.length := by rw [HLEN.out]; exact hlt
      have HT : Hid ((ps.take (k + 1)).map plainP = (ps.take k).map plainP ++ [plainP (ps.getD k pd)]) := by rw [take_snocP ps k hk', List.map_append]; exact rfl
      have HTL : Hid (((ps.take k).map plainP).length ≤ 1000000) := by
        have h2 : (ps.take k).length ≤ k := List.length_take_le ..
        exact Lib.hid (by rw [List.length_map]; omega)
      clear hpa hk'
      generalize ps.getD k pd = x at *
      generalize (ps.take k).map plainP = T at *
      obtain ⟨xt, xs, xn⟩ := x
      dsimp only at c0 c1 c2
      have hraw : wr.ownsRow w.heap.size 28 3 u3 T.length (T.flatMap cellsP) := hown
      clear hown
      have hbw : b < wr.heap.size := by omega
      cases xt with
      | true =>
        have HT2 : Hid ((ps.take (k + 1)).map plainP = T ++ [⟨true, xs, 0⟩]) := by rw [HT.out]; exact rfl
        clear HT
        go_wp2_with (at_builtin; go_must (refine wpList_append_own _ rfl _ _ 22 rfl w.heap.size 28 i0 _ 3 32 Try.underlying22 hi hz0 hz1 hz2 rfl (by decide) _ _ _ rfl (hraw.alloc _) ⟨wr.heap.size, 0, none⟩ 1 1 [_, _, _] rfl rfl (World.news_of_block (cs := #[_, _, _]) (fr := (0, 0)) (heap_alloc_new wr _)) ?c2 ?c3 ?c4 ?c5 ?_))
        case c2 => exact ⟨rfl, rfl, rfl⟩
        case c3 => have := HTL.out; unfold maxLen; omega
        case c4 => have := HTL.out; omega
        case c5 => omega
        intro v2 w2 hown2 hgrow2 _
        have R1 : OwnsP w2 w.heap.size v2 ((ps.take (k + 1)).map plainP) ∧ Below w.heap.size w w2 := by
          rw [HT2.out]
          exact ⟨OwnsP.snoc hown2, (hbel.alloc hsz _).grown hgrow2 (by simp; omega) (fun q hq => (hraw.lt q hq).1)⟩
        clear hown2 hgrow2 hraw
        go_wp2_with fail
        go_roundw
        case rel => exact ⟨k + 1, by omega, by go_num, R1.1, R1.2⟩
        case measure => simp [intOf]; omega
      | false =>
        have HT2 : Hid ((ps.take (k + 1)).map plainP = T ++ [⟨false, ⟨#[]⟩, xn⟩]) := by rw [HT.out]; exact rfl
        clear HT
        go_wp2_with (at_builtin; go_must (refine wpList_append_own _ rfl _ _ 22 rfl w.heap.size 28 i0 _ 3 32 Try.underlying22 hi hz0 hz1 hz2 rfl (by decide) _ _ _ rfl (hraw.alloc _) ⟨wr.heap.size, 0, none⟩ 1 1 [_, _, _] rfl rfl (World.news_of_block (cs := #[_, _, _]) (fr := (0, 0)) (heap_alloc_new wr _)) ?d2 ?d3 ?d4 ?d5 ?_))
        case d2 => exact ⟨rfl, rfl, rfl⟩
        case d3 => have := HTL.out; unfold maxLen; omega
        case d4 => have := HTL.out; omega
        case d5 => omega
        intro v2 w2 hown2 hgrow2 _
        have R1 : OwnsP w2 w.heap.size v2 ((ps.take (k + 1)).map plainP) ∧ Below w.heap.size w w2 := by
          rw [HT2.out]
          exact ⟨OwnsP.snoc hown2, (hbel.alloc hsz _).grown hgrow2 (by simp; omega) (fun q hq => (hraw.lt q hq).1)⟩
        clear hown2 hgrow2 hraw
        go_wp2_with fail
        go_roundw
        case rel => exact ⟨k + 1, by omega, by go_num, R1.1, R1.2⟩
        case measure => simp [intOf]; omega
    · go_wp2_with fail
      go_ret
      have : ps.take k = ps := List.take_of_length_le (by rw [HLEN.out]; omega)
      rw [this] at hown
      exact ⟨_, rfl, hown, hbel⟩

end Go.Proofs.Ytognddehcfjiaaa
