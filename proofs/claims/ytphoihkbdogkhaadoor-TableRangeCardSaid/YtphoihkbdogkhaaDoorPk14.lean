/- Texts on the program's own functions, several in one: TbA, TbP, TbHeap. -/
import Derived.Test.YtphoihkbdogkhaaDoorPk9
import Derived.Test.YtphoihkbdogkhaaDoorPk8
import Derived.Test.YtphoihkbdogkhaaDoorPk7
import Derived.Deep.RegionHeld3
import Derived.Test.YtphoihkbdogkhaaDoorPk13
import Derived.Test.YtphoihkbdogkhaaDoorPk10
import Derived.Test.YtphoihkbdogkhaaDoorPk12

/- The walks of table's small functions: Internal, mayBe, valueRow, footRow. -/
namespace Go.Proofs.YtphoihkbdogkhaaDoor.Bn.Tw
open Go Go.RowKit Go.Proofs.YtphoihkbdogkhaaDoor.Tb
set_option linter.unusedVariables false
set_option maxRecDepth 100000

abbrev enV (e : Ent) : Value := .agg #[.string e.key, .string e.val, .int .u64 (e.seq : Int), .bool e.gone]
abbrev entX (e : Ent) : Obj := .cells #[.string e.key, .string e.val, .int .u64 (e.seq : Int), .bool e.gone] 33
theorem seesP_one {w : World} {B : Nat} {K : ByteArray} (h : w.heap[B]? = some (.cells #[.bool true, .string K, .int .u64 0] 89 (0, 0))) : SeesP w (.slice (some ⟨B, 0, none⟩) 1 1) [⟨true, K, 0⟩] := by
  have h0 : w.cell? ⟨B, 0, none⟩ = some (.bool true) := by rw [Bo.cell_of h]; rfl
  have h1 : w.cell? ⟨B, 1, none⟩ = some (.string K) := by rw [Bo.cell_of h]; rfl
  have h2 : w.cell? ⟨B, 2, none⟩ = some (.int .u64 0) := by rw [Bo.cell_of h]; rfl
  refine Or.inr ⟨B, 0, 1, rfl, World.block_lt_of_cell? w _ h0, fun i hi => ?_⟩
  match i, hi with
  | 0, _ => exact ⟨h0, h1, h2⟩
set_option maxHeartbeats 2000000 in
theorem internal_any (K : ByteArray) (q : Nat) (w : World) (hK : K.size ≤ 1000000) (hq : q < 18446744073709551616) :
    Calls Tryd.prog 16 #[.string K, .int .u64 (q : Int)] w (Gives (.string (bmk (Mm.place K.data.toList q))) w) := by
  have HST := Lib.hid (fun W => str_any K W (by omega))
  have HKEY := Lib.hid (fun (W : World) ao len cap (h : SeesP W (.slice ao len cap) [⟨true, K, 0⟩]) (hl : len ≤ 1000000) => key_any ao len cap [⟨true, K, 0⟩] W h hl (by simp [sizl]; omega) (fun i => by
    cases i with
    | zero => simp
    | succ i => simp [pd]))
  have hleft : ∃ c : Nat, (c : Int) = 18446744073709551615 - (q : Int) ∧ 18446744073709551615 - q = c := ⟨18446744073709551615 - q, by omega, rfl⟩
  obtain ⟨c, hc, hc2⟩ := hleft
  have HPL : Hid (bmk (Mm.place K.data.toList q) = (⟨(keyl [⟨true, K, 0⟩]).toArray⟩ : ByteArray) ++ ⟨(Nm.big c 8).toArray⟩) := Lib.hid (by rw [place_one, one_key, hc2]; exact mk_app _ _)
  have hsz1 : (⟨(keyl [⟨true, K, 0⟩]).toArray⟩ : ByteArray).size ≤ 3000000 := by
    have h1 := one_length K.data.toList
    have h2 := Bo.len K
    rw [one_key]
    show (one K.data.toList).toArray.size ≤ _
    rw [List.size_toArray]
    omega
  have hsz2 : (⟨(Nm.big c 8).toArray⟩ : ByteArray).size = 8 := by show (Nm.big c 8).toArray.size = _; rw [List.size_toArray, Nm.big_length]
  have HBIG := Lib.hid (fun W => big_any (c : Int) 8 W (by omega) (by omega))
  rw [HPL.out]
  generalize (⟨(keyl [⟨true, K, 0⟩]).toArray⟩ : ByteArray) = X at *
  generalize hY : (⟨(Nm.big c 8).toArray⟩ : ByteArray) = Y at *
  have HB8 : Hid (∀ W, Calls Tryd.prog 39 #[.int .u64 (c : Int), .int .i64 8] W (fun e w' => e = .returned (.tuple #[.string Y, .int .i64 0]) ∧ Below W.heap.size W w')) := Lib.hid (fun W => by
    have h1 : Nm.wid c ≤ 8 := (Nm.wid_le (by omega) (by omega)).2 (by omega)
    have e1 : bigL (c : Int) 8 = Nm.big c 8 := by unfold bigL; rw [if_neg (by omega), if_neg (by rw [Int.toNat_natCast]; omega)]; rfl
    have e2 : bigE (c : Int) 8 = 0 := by unfold bigE; rw [if_neg (by omega), if_neg (by rw [Int.toNat_natCast]; omega)]
    have h := HBIG.out W
    rw [e1, e2] at h
    unfold Told at h
    rw [hY] at h
    exact h)
  clear HBIG HPL hY hc2
  have hcw : IntKind.u64.wrap (18446744073709551615 - (q : Int)) = c := by rw [← hc]; show (c : Int) % 18446744073709551616 = c; omega
  have hadd : ¬ (9223372036854775807 : Int) < (X.size : Int) + (Y.size : Int) := by omega
  have hadd' : ¬ 9223372036854775807 < X.size + Y.size := by omega
  go_enter Tryd.func16, Tryd.ntmps16
  go_wp2_with fail
  rw [← hc]
  refine (HB8.out _).mono ?_
  rintro e w1 ⟨rfl, hb1⟩
  go_wp2_with fail
  refine (HST.out _).mono ?_
  rintro e w2 ⟨rfl, hb2⟩
  have HB2 := Lib.hid (Below.next hb1 hb2)
  clear hb1 hb2
  simp only [partV]
  go_wp2_with fail
  refine (HKEY.out _ _ _ _ (seesP_one (heap_alloc_new w2 _)) (by omega)).mono ?_
  rintro e w3 ⟨rfl, hb3⟩
  have HB3 := Lib.hid (Below.next (Below.next_alloc HB2.out (.cells #[.bool true, .string K, .int .u64 0] 89)) hb3)
  clear hb3
  go_wp2_with fail
  go_ret
  exact ⟨rfl, HB3.out⟩

theorem isEmpty_pos {s : ByteArray} (h : s.size ≠ 0) : s.toList.isEmpty = false := by
  rw [ByteArray.toList_eq, List.isEmpty_eq_false_iff]
  intro e
  have := Bo.len s
  rw [e] at this
  exact h this.symm
theorem box_below (w : World) (o : Obj) : Below w.heap.size w (w.alloc o) := (Below.refl _ _).alloc (Nat.le_refl _) _
set_option maxHeartbeats 1000000 in
/-- mayBe, of any entry. -/
theorem mayBe_any (e : Ent) (w : World) :
    Calls Tryd.prog 27 #[enV e] w (Gives (.bool (Tb.may e)) w) := by
  obtain ⟨K, V, q, g⟩ := e
  have HM : Hid (Tb.may ⟨K, V, q, g⟩ = decide (K.size ≠ 0 ∧ 1 ≤ q ∧ q ≤ 9223372036854775808 ∧ ¬ (g = true ∧ V.size ≠ 0))) := Lib.hid rfl
  generalize Tb.may ⟨K, V, q, g⟩ = R at *
  dsimp only [enV]
  by_cases h1 : K.size = 0
  · have e1 := isEmpty_of_nil h1
    have hR : R = false := by rw [HM.out, decide_eq_false]; rintro ⟨h, -⟩; exact h h1
    subst hR
    clear HM h1
    go_enter Tryd.func27, Tryd.ntmps27
    go_wp2_with fail
    go_ret
    exact ⟨rfl, box_below _ _⟩
  · have e1 := isEmpty_pos h1
    by_cases h2 : q = 0
    · have hR : R = false := by rw [HM.out, decide_eq_false]; rintro ⟨-, h, -⟩; omega
      have e2 : ¬ (0 : Int) < q := by omega
      subst hR
      clear HM h1 h2
      go_enter Tryd.func27, Tryd.ntmps27
      go_wp2_with fail
      go_ret
      exact ⟨rfl, box_below _ _⟩
    · have e2 : (0 : Int) < q := by omega
      by_cases h3 : 9223372036854775808 < q
      · have hR : R = false := by rw [HM.out, decide_eq_false]; rintro ⟨-, -, h, -⟩; omega
        have e3 : ¬ (q : Int) ≤ 9223372036854775808 := by omega
        subst hR
        clear HM h1 h2 h3
        go_enter Tryd.func27, Tryd.ntmps27
        go_wp2_with fail
        go_ret
        exact ⟨rfl, box_below _ _⟩
      · have e3 : (q : Int) ≤ 9223372036854775808 := by omega
        cases g with
        | false =>
          have hR : R = true := by rw [HM.out, decide_eq_true]; exact ⟨h1, by omega, by omega, by simp⟩
          subst hR
          clear HM h1 h2 h3
          go_enter Tryd.func27, Tryd.ntmps27
          go_wp2_with fail
          go_ret
          exact ⟨rfl, box_below _ _⟩
        | true =>
          by_cases h4 : V.size = 0
          · have e4 := isEmpty_of_nil h4
            have hR : R = true := by rw [HM.out, decide_eq_true]; exact ⟨h1, by omega, by omega, by simp [h4]⟩
            subst hR
            clear HM h1 h2 h3 h4
            go_enter Tryd.func27, Tryd.ntmps27
            go_wp2_with fail
            go_ret
            exact ⟨rfl, box_below _ _⟩
          · have e4 := isEmpty_pos h4
            have hR : R = false := by rw [HM.out, decide_eq_false]; rintro ⟨-, -, -, h⟩; exact h ⟨rfl, h4⟩
            subst hR
            clear HM h1 h2 h3 h4
            go_enter Tryd.func27, Tryd.ntmps27
            go_wp2_with fail
            go_ret
            exact ⟨rfl, box_below _ _⟩

theorem footRow_any (n : Nat) (w : World) (hn : n < 4294967296) :
    Calls Tryd.prog 52 #[.int .u64 (n : Int)] w (Gives (.string (bmk (Nm.big n 4))) w) := by
  have hb : Told (bigL n 4) (bigE n 4) = Told (Nm.big n 4) 0 := by
    have h1 : Nm.wid n ≤ 4 := (Nm.wid_le (by omega) (by omega)).2 (by simpa using hn)
    have e1 : bigL n 4 = Nm.big n 4 := by unfold bigL; rw [if_neg (by omega), if_neg (by rw [Int.toNat_natCast]; omega)]; rfl
    have e2 : bigE n 4 = 0 := by unfold bigE; rw [if_neg (by omega), if_neg (by rw [Int.toNat_natCast]; omega)]
    rw [e1, e2]
  have HB : Hid (∀ W, Calls Tryd.prog 39 #[.int .u64 (n : Int), .int .i64 4] W (Told (Nm.big n 4) 0 W)) := Lib.hid (fun W => by
    have := big_any (n : Int) 4 W (by omega) (by omega)
    rwa [hb] at this)
  clear hb
  unfold bmk
  generalize Nm.big n 4 = X at *
  go_enter Tryd.func52, Tryd.ntmps52
  go_wp2_with fail
  refine (HB.out _).mono ?_
  rintro e w1 ⟨rfl, hb⟩
  go_wp2_with fail
  go_ret
  exact ⟨rfl, hb⟩

theorem conv1 {w : World} {B : Nat} {b : UInt8} {t : TypeId} (h : w.heap[B]? = some (.cells #[cellOf b] t (0, 0))) : (convert 34 9 (.slice (some ⟨B, 0, none⟩) 1 1)).run Tryd.prog w = .ok (.string (bmk [b])) w :=
  run_convert_bytes_back (P := Tryd.prog) w 34 9 5 ⟨B, 0, none⟩ 1 [b] Tryd.underlying34 Tryd.underlying5 Tryd.underlying9 (fun j hj => by
    obtain rfl : j = 0 := by simpa using hj
    show w.cell? ⟨B, 0, none⟩ = _
    rw [Bo.cell_of h]
    rfl)
set_option maxHeartbeats 1000000 in
theorem valueRow_any (e : Ent) (w : World) (hv : e.val.size ≤ 1000000) :
    Calls Tryd.prog 29 #[enV e] w (Gives (.string (vr e)) w) := by
  obtain ⟨K, V, q, g⟩ := e
  dsimp only at hv
  have HV : Hid (vr ⟨K, V, q, g⟩ = bmk (if g = true then [1] else 0 :: V.data.toList)) := Lib.hid rfl
  generalize vr ⟨K, V, q, g⟩ = R at *
  dsimp only [enV]
  cases g with
  | true =>
    have hc := conv1 (b := 1) (heap_new2' w (entX ⟨K, V, q, true⟩) (.cells #[.int .u8 1] 5))
    have hR : R = bmk [1] := HV.out
    subst hR
    clear HV
    go_enter Tryd.func29, Tryd.ntmps29
    go_wp2_with fail
    go_ret
    exact ⟨rfl, (box_below _ _).alloc (by simp) _⟩
  | false =>
    have hc := conv1 (b := 0) (heap_new2' w (entX ⟨K, V, q, false⟩) (.cells #[.int .u8 0] 5))
    have hR : R = bmk [0] ++ V := by rw [HV.out]; exact mk_app [0] V.data.toList
    have h1 : (bmk [0]).size = 1 := rfl
    generalize bmk [0] = Z at *
    have hadd : ¬ (9223372036854775807 : Int) < (Z.size : Int) + (V.size : Int) := by omega
    have hadd' : ¬ 9223372036854775807 < Z.size + V.size := by omega
    subst hR
    clear HV
    go_enter Tryd.func29, Tryd.ntmps29
    go_wp2_with fail
    go_ret
    exact ⟨rfl, (box_below _ _).alloc (by simp) _⟩
end Go.Proofs.YtphoihkbdogkhaaDoor.Bn.Tw

/- The walk of table's entryAt. -/
namespace Go.Proofs.YtphoihkbdogkhaaDoor.Bn.Tw
open Go Go.RowKit Go.Proofs.YtphoihkbdogkhaaDoor.Tb
open Go.Proofs.YtphoihkbdogkhaaDoor.Bn.Bo (Blk heap_lt cell_of)
set_option linter.unusedVariables false
set_option maxRecDepth 100000

def entAt (l : List En) (i : Nat) : Ent := match l[i]? with
  | none => zeroE
  | some x => entOf x
abbrev set4E (w : World) (b : Nat) (e : Ent) : World := (((w.setCell ⟨b, 0, none⟩ (.string e.key)).setCell ⟨b, 1, none⟩ (.string e.val)).setCell ⟨b, 2, none⟩ (.int .u64 (e.seq : Int))).setCell ⟨b, 3, none⟩ (.bool e.gone)
theorem set4E_heap {w : World} {b : Nat} {e0 : Ent} (e : Ent) (h : w.heap[b]? = some (.cells #[.string e0.key, .string e0.val, .int .u64 (e0.seq : Int), .bool e0.gone] 33 (0, 0))) : (set4E w b e).heap[b]? = some (.cells #[.string e.key, .string e.val, .int .u64 (e.seq : Int), .bool e.gone] 33 (0, 0)) := by
  have h0 := heap_setCell_same w b 0 _ _ (.string e.key) h
  have h1 := heap_setCell_same _ b 1 _ _ (.string e.val) h0
  have h2 := heap_setCell_same _ b 2 _ _ (.int .u64 (e.seq : Int)) h1
  exact heap_setCell_same _ b 3 _ _ (.bool e.gone) h2
theorem set4E_below {w w1 : World} {b : Nat} (e : Ent) (hb : Below w.heap.size w w1) (hlt : w.heap.size ≤ b) : Below w.heap.size w (set4E w1 b e) :=
  (((hb.setCell hlt _).setCell hlt _).setCell hlt _).setCell hlt _
/-- The box of a result, ahead of what is told. -/
theorem res_facts {w w1 : World} {e0 : Ent} (hx : w1.heap[w.heap.size]? = some (.cells #[.string e0.key, .string e0.val, .int .u64 (e0.seq : Int), .bool e0.gone] 33 (0, 0))) (e : Ent) :
    ((set4E w1 w.heap.size e).cell? ⟨w.heap.size, 0, none⟩ = some (.string e.key) ∧ (set4E w1 w.heap.size e).cell? ⟨w.heap.size, 1, none⟩ = some (.string e.val) ∧ (set4E w1 w.heap.size e).cell? ⟨w.heap.size, 2, none⟩ = some (.int .u64 (e.seq : Int)) ∧ (set4E w1 w.heap.size e).cell? ⟨w.heap.size, 3, none⟩ = some (.bool e.gone)) := by
  have h := set4E_heap e hx
  exact ⟨by rw [cell_of h]; rfl, by rw [cell_of h]; rfl, by rw [cell_of h]; rfl, by rw [cell_of h]; rfl⟩
section
variable {w : World} {base p : Nat} {v : Value} {rs : List Bo.Row}
theorem entryAt_none (h : Blk w base p v rs) (hv : ∀ x ∈ rs, x.2.val.size ≤ 1000000) (i : Nat) (hi : rs[i]? = none) :
    Calls Tryd.prog 34 #[.pointer (some ⟨p, 0, none⟩), .int .i64 (i : Int)] w (Gives (enV zeroE) w) := by
  have HAT := Lib.hid (Bo.at_any (h.below (box_below w (entX zeroE))) (i : Int) (fun x hx => by have := hv x hx; omega))
  have e : Bo.atV (rs.map Prod.snd) (i : Int) = .tuple #[.string ⟨#[]⟩, .string ⟨#[]⟩, .bool false] := by
    unfold Bo.atV
    rw [if_neg (by omega), Int.toNat_natCast, List.getElem?_map, hi]
    rfl
  rw [e] at HAT
  clear e hi h hv
  go_enter Tryd.func34, Tryd.ntmps34
  go_wp2_with fail
  refine HAT.out.mono ?_
  rintro x w1 ⟨rfl, hb1⟩
  have hx1 : w1.heap[w.heap.size]? = some (entX zeroE) := (hb1.block _ (by simp)).trans (heap_alloc_new w _)
  have HB1 := Lib.hid ((box_below _ _).trans (hb1.mono (by simp)) : Below w.heap.size w w1)
  have f0 := Bo.unfrozen_of hx1 0
  have f1 := Bo.unfrozen_of hx1 1
  have f2 := Bo.unfrozen_of hx1 2
  have f3 := Bo.unfrozen_of hx1 3
  have c0 : w1.cell? ⟨w.heap.size, 0, none⟩ = some (.string ⟨#[]⟩) := by rw [cell_of hx1]; rfl
  have c1 : w1.cell? ⟨w.heap.size, 1, none⟩ = some (.string ⟨#[]⟩) := by rw [cell_of hx1]; rfl
  have c2 : w1.cell? ⟨w.heap.size, 2, none⟩ = some (.int .u64 0) := by rw [cell_of hx1]; rfl
  have c3 : w1.cell? ⟨w.heap.size, 3, none⟩ = some (.bool false) := by rw [cell_of hx1]; rfl
  have HX1 := Lib.hid hx1
  clear hb1 hx1
  go_wp2_with fail
  exact bodyPost_ret (v := enV zeroE) (by simp [results, Tryd.results34, go_sem, zeroE, c0, c1, c2, c3]) rfl ⟨rfl, set4E_below zeroE HB1.out (Nat.le_refl _)⟩
def entPq (O : Option (List Pt)) (V1 : ByteArray) (q : Nat) (g : Bool) : Ent := match O with
  | some [p] => ⟨p.s, V1, q, g⟩
  | _ => zeroE
theorem extract_pre (s : ByteArray) (m : Nat) : (s.extract 0 m).data.toList = s.data.toList.take m := by
  simp [ByteArray.data_extract]
set_option maxHeartbeats 2000000 in
theorem entryAt_some (h : Blk w base p v rs) (i : Nat) (x : Bo.Row) (hi : rs[i]? = some x) (hv : ∀ x ∈ rs, x.2.val.size ≤ 1000000) (hk : x.2.key.size ≤ 1000000) :
    Calls Tryd.prog 34 #[.pointer (some ⟨p, 0, none⟩), .int .i64 (i : Int)] w (Gives (enV (entOf x.2)) w) := by
  have HAT := Lib.hid (Bo.at_any (h.below (box_below w (entX zeroE))) (i : Int) (fun x hx => by have := hv x hx; omega))
  have hval := hv x (List.mem_of_getElem? hi)
  obtain ⟨kv, ⟨K, V⟩⟩ := x
  dsimp only at hk hval ⊢
  have e : Bo.atV (rs.map Prod.snd) (i : Int) = .tuple #[.string K, .string V, .bool true] := by
    unfold Bo.atV
    rw [if_neg (by omega), Int.toNat_natCast, List.getElem?_map, hi]
    rfl
  rw [e] at HAT
  clear e hi h hv
  by_cases hv0 : V.size = 0
  · have hz : entOf ⟨K, V⟩ = zeroE := by unfold entOf; rw [if_pos (Or.inl hv0)]
    rw [hz]
    have e1 := isEmpty_of_nil hv0
    clear hz hv0
    go_enter Tryd.func34, Tryd.ntmps34
    go_wp2_with fail
    refine HAT.out.mono ?_
    rintro x w1 ⟨rfl, hb1⟩
    have hx1 : w1.heap[w.heap.size]? = some (entX zeroE) := (hb1.block _ (by simp)).trans (heap_alloc_new w _)
    have HB1 := Lib.hid ((box_below _ _).trans (hb1.mono (by simp)) : Below w.heap.size w w1)
    have f0 := Bo.unfrozen_of hx1 0
    have f1 := Bo.unfrozen_of hx1 1
    have f2 := Bo.unfrozen_of hx1 2
    have f3 := Bo.unfrozen_of hx1 3
    have c0 : w1.cell? ⟨w.heap.size, 0, none⟩ = some (.string ⟨#[]⟩) := by rw [cell_of hx1]; rfl
    have c1 : w1.cell? ⟨w.heap.size, 1, none⟩ = some (.string ⟨#[]⟩) := by rw [cell_of hx1]; rfl
    have c2 : w1.cell? ⟨w.heap.size, 2, none⟩ = some (.int .u64 0) := by rw [cell_of hx1]; rfl
    have c3 : w1.cell? ⟨w.heap.size, 3, none⟩ = some (.bool false) := by rw [cell_of hx1]; rfl
    have HX1 := Lib.hid hx1
    clear hb1 hx1
    go_wp2_with fail
    exact bodyPost_ret (v := enV zeroE) (by simp [results, Tryd.results34, go_sem, zeroE, c0, c1, c2, c3]) rfl ⟨rfl, set4E_below zeroE HB1.out (Nat.le_refl _)⟩
  · have e1 := isEmpty_pos hv0
    by_cases hk8 : K.size < 8
    · have hz : entOf ⟨K, V⟩ = zeroE := by unfold entOf; rw [if_pos (Or.inr hk8)]
      rw [hz]
      have hk8' : (K.size : Int) < 8 := by omega
      clear hz hv0 hk8
      go_enter Tryd.func34, Tryd.ntmps34
      go_wp2_with fail
      refine HAT.out.mono ?_
      rintro x w1 ⟨rfl, hb1⟩
      have hx1 : w1.heap[w.heap.size]? = some (entX zeroE) := (hb1.block _ (by simp)).trans (heap_alloc_new w _)
      have HB1 := Lib.hid ((box_below _ _).trans (hb1.mono (by simp)) : Below w.heap.size w w1)
      have f0 := Bo.unfrozen_of hx1 0
      have f1 := Bo.unfrozen_of hx1 1
      have f2 := Bo.unfrozen_of hx1 2
      have f3 := Bo.unfrozen_of hx1 3
      have c0 : w1.cell? ⟨w.heap.size, 0, none⟩ = some (.string ⟨#[]⟩) := by rw [cell_of hx1]; rfl
      have c1 : w1.cell? ⟨w.heap.size, 1, none⟩ = some (.string ⟨#[]⟩) := by rw [cell_of hx1]; rfl
      have c2 : w1.cell? ⟨w.heap.size, 2, none⟩ = some (.int .u64 0) := by rw [cell_of hx1]; rfl
      have c3 : w1.cell? ⟨w.heap.size, 3, none⟩ = some (.bool false) := by rw [cell_of hx1]; rfl
      have HX1 := Lib.hid hx1
      clear hb1 hx1
      go_wp2_with fail
      exact bodyPost_ret (v := enV zeroE) (by simp [results, Tryd.results34, go_sem, zeroE, c0, c1, c2, c3]) rfl ⟨rfl, set4E_below zeroE HB1.out (Nat.le_refl _)⟩
    · have hk8' : ¬ (K.size : Int) < 8 := by omega
      obtain ⟨m, hm⟩ : ∃ m, K.size = m + 8 := ⟨K.size - 8, by omega⟩
      have hE : entOf ⟨K, V⟩ = entPq (prl (K.data.toList.take m)) (bmk (V.data.toList.drop 1)) (18446744073709551615 - Nm.val (K.data.toList.drop m)) (decide (V.data.toList.head? = some 1)) := by
        unfold entOf
        rw [if_neg (by dsimp only; omega)]
        dsimp only
        rw [hm, Nat.add_sub_cancel]
        rcases prl (K.data.toList.take m) with _ | (_ | ⟨q, (_ | ⟨_, _⟩)⟩) <;> rfl
      have HPA : Hid (∀ W, Calls Tryd.prog 62 #[.string (K.extract 0 m)] W (PartsRead (prl (K.data.toList.take m)) W)) := Lib.hid (fun W => by
        have := parts_any (K.extract 0 m) W (by rw [ByteArray.size_extract]; omega)
        rwa [extract_pre] at this)
      have hdl : (K.data.toList.drop m).length = 8 := by rw [List.length_drop, Bo.len]; omega
      have hx8 : (K.extract m (m + 8)).data.toList = K.data.toList.drop m := by rw [← hm]; exact Lib.extract_to_end _ _
      have HRB : Hid (∀ W, Calls Tryd.prog 63 #[.string (K.extract m (m + 8)), .int .i64 8] W (fun e w' => e = .returned (.tuple #[.int .u64 (Nm.val (K.data.toList.drop m)), .bool true]) ∧ W = w')) := Lib.hid (fun W => by
        have hsz : (K.extract m (m + 8)).size = 8 := by rw [← Bo.len, hx8, hdl]
        have := readBig_yes (K.extract m (m + 8)) 8 W (by omega) (by omega) (by omega) (by omega)
        rw [hx8, show ((8 : Int).toNat) = 8 from rfl, List.take_of_length_le (by omega)] at this
        exact this)
      have hvl : Nm.val (K.data.toList.drop m) < 18446744073709551616 := by
        have := Nm.val_lt (K.data.toList.drop m)
        rw [hdl] at this
        exact this
      rw [hE]
      have hm1 : (m : Int) ≤ 1000000 := by omega
      have hV0 : 0 < V.size := by omega
      have hix : ∀ w : World, (Instr.index 9 (.string V) (.int .i64 0)).run Tryd.prog w = .ok (.int .u8 (V[0]'hV0).toNat) w := index_byte V 0 hV0
      have hhd : V.data.toList.head? = some V[0] := by
        rw [List.head?_eq_getElem?, List.getElem?_eq_getElem (by rw [Bo.len]; omega)]
        rfl
      rw [hhd]
      have hV1 : (V.extract 1 V.size) = bmk (V.data.toList.drop 1) := by
        rw [← bmk_self (V.extract 1 V.size), Lib.extract_to_end]
      generalize hb0 : V[0] = b0 at *
      have hbeq : decide (some b0 = some (1 : UInt8)) = ((b0.toNat : Int) == 1) := by
        by_cases e : b0 = 1
        · rw [e]; rfl
        · have : (b0.toNat : Int) ≠ 1 := fun e2 => e (UInt8.toNat.inj (by show b0.toNat = 1; omega))
          rw [decide_eq_false (by simpa using e)]
          simp; omega
      rw [hbeq]
      generalize Nm.val (K.data.toList.drop m) = N at *
      generalize bmk (V.data.toList.drop 1) = V1 at *
      have hVS : (1 : Int) ≤ V.size := by omega
      obtain ⟨c, hc, hc2⟩ : ∃ c : Nat, (c : Int) = 18446744073709551615 - (N : Int) ∧ 18446744073709551615 - N = c := ⟨18446744073709551615 - N, by omega, rfl⟩
      have hcw : IntKind.u64.wrap (18446744073709551615 - (N : Int)) = c := by rw [← hc]; show (c : Int) % 18446744073709551616 = c; omega
      rw [hc2]
      generalize prl (K.data.toList.take m) = O at *
      clear hE hhd hb0 hv0 hk8 hdl hx8 hvl hbeq hc hc2
      go_enter Tryd.func34, Tryd.ntmps34
      go_wp2_with fail
      refine HAT.out.mono ?_
      rintro x w1 ⟨rfl, hb1⟩
      have hx1 : w1.heap[w.heap.size]? = some (entX zeroE) := (hb1.block _ (by simp)).trans (heap_alloc_new w _)
      have HB1 := Lib.hid ((box_below _ _).trans (hb1.mono (by simp)) : Below w.heap.size w w1)
      have f0 := Bo.unfrozen_of hx1 0
      have f1 := Bo.unfrozen_of hx1 1
      have f2 := Bo.unfrozen_of hx1 2
      have f3 := Bo.unfrozen_of hx1 3
      have c0 : w1.cell? ⟨w.heap.size, 0, none⟩ = some (.string ⟨#[]⟩) := by rw [cell_of hx1]; rfl
      have c1 : w1.cell? ⟨w.heap.size, 1, none⟩ = some (.string ⟨#[]⟩) := by rw [cell_of hx1]; rfl
      have c2 : w1.cell? ⟨w.heap.size, 2, none⟩ = some (.int .u64 0) := by rw [cell_of hx1]; rfl
      have c3 : w1.cell? ⟨w.heap.size, 3, none⟩ = some (.bool false) := by rw [cell_of hx1]; rfl
      have HX1 := Lib.hid hx1
      clear hb1 hx1
      go_wp2_with fail
      refine (HPA.out _).mono ?_
      rintro x w2 ⟨hb2, ⟨rfl, rfl⟩ | ⟨ps, pv, rfl, rfl, hps⟩⟩
      · clear hix hV1 hcw f0 f1 f2 f3 c0 c1 c2 c3
        have hx2 : w2.heap[w.heap.size]? = some (entX zeroE) := (hb2.block _ (heap_lt HX1.out)).trans HX1.out
        have HB2 := Lib.hid (Below.next HB1.out hb2)
        have f0 := Bo.unfrozen_of hx2 0
        have f1 := Bo.unfrozen_of hx2 1
        have f2 := Bo.unfrozen_of hx2 2
        have f3 := Bo.unfrozen_of hx2 3
        have c0 : w2.cell? ⟨w.heap.size, 0, none⟩ = some (.string ⟨#[]⟩) := by rw [cell_of hx2]; rfl
        have c1 : w2.cell? ⟨w.heap.size, 1, none⟩ = some (.string ⟨#[]⟩) := by rw [cell_of hx2]; rfl
        have c2 : w2.cell? ⟨w.heap.size, 2, none⟩ = some (.int .u64 0) := by rw [cell_of hx2]; rfl
        have c3 : w2.cell? ⟨w.heap.size, 3, none⟩ = some (.bool false) := by rw [cell_of hx2]; rfl
        have HX2 := Lib.hid hx2
        clear hx2
        go_wp2_with fail
        exact bodyPost_ret (v := enV zeroE) (by simp [results, Tryd.results34, go_sem, zeroE, c0, c1, c2, c3]) rfl ⟨rfl, set4E_below zeroE HB2.out (Nat.le_refl _)⟩
      · obtain ⟨pa, pc, rfl⟩ : ∃ a c, pv = .slice a ps.length c := Bo.row_any hps
        clear f0 f1 f2 f3 c0 c1 c2 c3
        have hx2 : w2.heap[w.heap.size]? = some (entX zeroE) := (hb2.block _ (heap_lt HX1.out)).trans HX1.out
        have HB2 := Lib.hid (Below.next HB1.out hb2)
        have f0 := Bo.unfrozen_of hx2 0
        have f1 := Bo.unfrozen_of hx2 1
        have f2 := Bo.unfrozen_of hx2 2
        have f3 := Bo.unfrozen_of hx2 3
        have c0 : w2.cell? ⟨w.heap.size, 0, none⟩ = some (.string ⟨#[]⟩) := by rw [cell_of hx2]; rfl
        have c1 : w2.cell? ⟨w.heap.size, 1, none⟩ = some (.string ⟨#[]⟩) := by rw [cell_of hx2]; rfl
        have c2 : w2.cell? ⟨w.heap.size, 2, none⟩ = some (.int .u64 0) := by rw [cell_of hx2]; rfl
        have c3 : w2.cell? ⟨w.heap.size, 3, none⟩ = some (.bool false) := by rw [cell_of hx2]; rfl
        have HX2 := Lib.hid hx2
        clear hx2
        by_cases hl1 : ps.length = 1
        · match ps, hl1 with
          | [q], _ =>
            obtain ⟨-, qb, qo, hq⟩ := hps.sees.get
            obtain ⟨hpa, -, q0, q1, q2⟩ := hq 0 (by simp)
            subst hpa
            rw [Nat.zero_mul, Nat.add_zero] at q0 q1 q2
            simp only [List.getD_cons_zero] at q0 q1 q2
            clear hps hq hb2 q0 q2
            go_wp2_with fail
            refine (HRB.out _).mono ?_
            rintro x w3 ⟨rfl, rfl⟩
            go_wp2_with fail
            go_region
            go_wp2_with fail
            exact bodyPost_ret (v := enV ⟨q.s, V1, c, (b0.toNat : Int) == 1⟩) (by simp [results, Tryd.results34, go_sem, c0, c1, c2, c3]) rfl ⟨rfl, (set4E_below (⟨q.s, V1, c, (b0.toNat : Int) == 1⟩ : Ent) HB2.out (Nat.le_refl _)).drew⟩
        · have hl2 : ((ps.length : Int) == 1) = false := by simp; omega
          have hz : entPq (some ps) V1 c ((b0.toNat : Int) == 1) = zeroE := by
            match ps, hl1 with
            | [], _ => rfl
            | [_], h => exact absurd rfl h
            | _ :: _ :: _, _ => rfl
          have HZ := Lib.hid hz
          clear hps hb2 hz hl1
          generalize ps.length = pn at *
          go_wp2_with fail
          exact bodyPost_ret (v := enV zeroE) (by simp [results, Tryd.results34, go_sem, zeroE, c0, c1, c2, c3]) rfl ⟨by rw [HZ.out], set4E_below zeroE HB2.out (Nat.le_refl _)⟩
end
/-- entryAt, of a block that lies there. -/
theorem entryAt_any {w : World} {base p : Nat} {v : Value} {rs : List Bo.Row} (h : Blk w base p v rs) (i : Nat) (hv : ∀ x ∈ rs, x.2.val.size ≤ 1000000 ∧ x.2.key.size ≤ 1000000) :
    Calls Tryd.prog 34 #[.pointer (some ⟨p, 0, none⟩), .int .i64 (i : Int)] w (Gives (enV (entAt (rs.map Prod.snd) i)) w) := by
  unfold entAt
  rw [List.getElem?_map]
  cases hi : rs[i]? with
  | none => exact entryAt_none h (fun x hx => (hv x hx).1) i hi
  | some x => exact entryAt_some h i x hi (fun x hx => (hv x hx).1) (hv x (List.mem_of_getElem? hi)).2
end Go.Proofs.YtphoihkbdogkhaaDoor.Bn.Tw

/- A table's builder as it lies in memory. No function is named. -/
namespace Go.Proofs.YtphoihkbdogkhaaDoor.Bn.Tw
open Go Go.RowKit Go.Proofs.YtphoihkbdogkhaaDoor.Tb
open Go.Proofs.YtphoihkbdogkhaaDoor.Bn.Bo (Turns Seat BL Built GoesB OwnB ownsRow_frame ownsRow_lt ownsRow_obj heap_lt cell_of unfrozen_of obj_cells_ne setCell_kept)
set_option linter.unusedVariables false
set_option maxRecDepth 100000

/-- Where a builder lies: its box, its six rows. -/
structure TL where
  b : Nat
  kv : Value
  drv : Value
  dfv : Value
  irv : Value
  ifv : Value
  tv : Value
abbrev preD (L : TL) (s : TS) : List Value := [.int .u64 (s.nn : Int), .int .i64 s.lev, .int .i64 (s.cnt : Int), .int .i64 0, .string ⟨#[]⟩, .string ⟨#[]⟩, .int .u64 (s.least : Int), .int .u64 (s.most : Int), L.kv]
abbrev postD (L : TL) (s : TS) : List Value := [L.irv, L.ifv, .int .i64 (s.index.n : Int), .string s.index.last, L.tv, .string s.last, .bool s.done]
abbrev preI (L : TL) (s : TS) : List Value := [.int .u64 (s.nn : Int), .int .i64 s.lev, .int .i64 (s.cnt : Int), .int .i64 0, .string ⟨#[]⟩, .string ⟨#[]⟩, .int .u64 (s.least : Int), .int .u64 (s.most : Int), L.kv, L.drv, L.dfv, .int .i64 (s.data.n : Int), .string s.data.last]
abbrev postI (L : TL) (s : TS) : List Value := [L.tv, .string s.last, .bool s.done]
abbrev cellsT (L : TL) (s : TS) : Array Value := #[.int .u64 (s.nn : Int), .int .i64 s.lev, .int .i64 (s.cnt : Int), .int .i64 0, .string ⟨#[]⟩, .string ⟨#[]⟩, .int .u64 (s.least : Int), .int .u64 (s.most : Int), L.kv,
  L.drv, L.dfv, .int .i64 (s.data.n : Int), .string s.data.last, L.irv, L.ifv, .int .i64 (s.index.n : Int), .string s.index.last, L.tv, .string s.last, .bool s.done]
def seatD (L : TL) (s : TS) : Seat := ⟨L.b, 9, preD L s, postD L s, 66, rfl, by decide⟩
def seatI (L : TL) (s : TS) : Seat := ⟨L.b, 13, preI L s, postI L s, 66, rfl, by decide⟩
def isK (L : TL) (k : Nat) : Prop := L.kv.ownBlock = some k
def isD (L : TL) (k : Nat) : Prop := L.drv.ownBlock = some k ∨ L.dfv.ownBlock = some k
def isI (L : TL) (k : Nat) : Prop := L.irv.ownBlock = some k ∨ L.ifv.ownBlock = some k
def isT (L : TL) (k : Nat) : Prop := L.tv.ownBlock = some k
/-- Its blocks. -/
def OwnT (L : TL) (k : Nat) : Prop := k = L.b ∨ isK L k ∨ isD L k ∨ isI L k ∨ isT L k
/-- No block of one is one of the other. -/
def Ap (P Q : Nat → Prop) : Prop := ∀ k, P k → ¬ Q k
structure Apart (L : TL) : Prop where
  dd : ∀ k, L.drv.ownBlock = some k → L.dfv.ownBlock ≠ some k
  ii : ∀ k, L.irv.ownBlock = some k → L.ifv.ownBlock ≠ some k
  kd : Ap (isK L) (isD L)
  ki : Ap (isK L) (isI L)
  kt : Ap (isK L) (isT L)
  di : Ap (isD L) (isI L)
  dt : Ap (isD L) (isT L)
  it : Ap (isI L) (isT L)
/-- A builder that holds this lies there. -/
structure BuiltT (w : World) (base : Nat) (L : TL) (s : TS) : Prop where
  box : w.heap[L.b]? = some (.cells (cellsT L s) 66 (0, 0))
  keys : OwnsS w base L.kv s.keys
  dr : Owns w base L.drv s.data.rows
  df : Owns w base L.dfv s.data.foot
  ir : Owns w base L.irv s.index.rows
  if_ : Owns w base L.ifv s.index.foot
  told : Owns w base L.tv s.told
  ap : Apart L
  low : base ≤ L.b
section
variable {w w' : World} {base : Nat} {L : TL} {s : TS}
theorem BuiltT.own_lt (h : BuiltT w base L s) {k : Nat} (hk : OwnT L k) : k < w.heap.size := by
  rcases hk with rfl | hk | (hk | hk) | (hk | hk) | hk
  · exact heap_lt h.box
  · exact ownsRow_lt h.keys hk
  · exact ownsRow_lt h.dr hk
  · exact ownsRow_lt h.df hk
  · exact ownsRow_lt h.ir hk
  · exact ownsRow_lt h.if_ hk
  · exact ownsRow_lt h.told hk
theorem BuiltT.own_ge (h : BuiltT w base L s) {k : Nat} (hk : OwnT L k) : base ≤ k := by
  rcases hk with rfl | hk | (hk | hk) | (hk | hk) | hk
  · exact h.low
  · exact (World.ownsRow.lt h.keys k hk).1
  · exact (World.ownsRow.lt h.dr k hk).1
  · exact (World.ownsRow.lt h.df k hk).1
  · exact (World.ownsRow.lt h.ir k hk).1
  · exact (World.ownsRow.lt h.if_ k hk).1
  · exact (World.ownsRow.lt h.told k hk).1
/-- Its box is none of its rows. -/
theorem BuiltT.box_ne (h : BuiltT w base L s) : ¬ isK L L.b ∧ ¬ isD L L.b ∧ ¬ isI L L.b ∧ ¬ isT L L.b := by
  have key : ∀ {e : TypeId} {z n : Nat} {v : Value} {xs : List Value}, w.ownsRow base e z v n xs → 66 ≠ e → v.ownBlock ≠ some L.b := fun hr hne e => by
    obtain ⟨cs, hc⟩ := ownsRow_obj hr e
    exact obj_cells_ne h.box hc hne rfl
  refine ⟨key h.keys (by decide), ?_, ?_, key h.told (by decide)⟩
  · rintro (e | e)
    · exact key h.dr (by decide) e
    · exact key h.df (by decide) e
  · rintro (e | e)
    · exact key h.ir (by decide) e
    · exact key h.if_ (by decide) e
theorem BuiltT.frame (h : BuiltT w base L s) (hk : ∀ k, OwnT L k → w'.heap[k]? = w.heap[k]?) : BuiltT w' base L s where
  box := (hk _ (Or.inl rfl)).trans h.box
  keys := ownsRow_frame h.keys fun k e => hk k (Or.inr (Or.inl e))
  dr := ownsRow_frame h.dr fun k e => hk k (Or.inr (Or.inr (Or.inl (Or.inl e))))
  df := ownsRow_frame h.df fun k e => hk k (Or.inr (Or.inr (Or.inl (Or.inr e))))
  ir := ownsRow_frame h.ir fun k e => hk k (Or.inr (Or.inr (Or.inr (Or.inl (Or.inl e)))))
  if_ := ownsRow_frame h.if_ fun k e => hk k (Or.inr (Or.inr (Or.inr (Or.inl (Or.inr e)))))
  told := ownsRow_frame h.told fun k e => hk k (Or.inr (Or.inr (Or.inr (Or.inr e))))
  ap := h.ap
  low := h.low
theorem BuiltT.below (h : BuiltT w base L s) (hb : Below w.heap.size w w') : BuiltT w' base L s := h.frame fun k ho => hb.block k (h.own_lt ho)
theorem BuiltT.drew (h : BuiltT w base L s) : BuiltT w.drew base L s := h.frame fun _ _ => rfl
theorem BuiltT.alloc (h : BuiltT w base L s) (o : Obj) : BuiltT (w.alloc o) base L s := h.below (box_below w o)
theorem BuiltT.turned {P : Nat → Prop} (h : BuiltT w base L s) (ht : Turns P w w') (hP : ∀ k, OwnT L k → ¬ P k) : BuiltT w' base L s := h.frame fun k hk => ht.block k (h.own_lt hk) (hP k hk)
theorem BuiltT.cell (h : BuiltT w base L s) (k : Nat) : w.cell? ⟨L.b, k, none⟩ = (cellsT L s)[k]? := cell_of h.box
theorem BuiltT.soft (h : BuiltT w base L s) (k : Nat) : w.frozen? ⟨L.b, k, none⟩ = false := unfrozen_of h.box k
/-- The block that goes on, and the index. -/
theorem BuiltT.data (h : BuiltT w base L s) : Built w base ⟨seatD L s, L.drv, L.dfv⟩ s.data := ⟨h.box, h.dr, h.df, h.ap.dd, h.low⟩
theorem BuiltT.index (h : BuiltT w base L s) : Built w base ⟨seatI L s, L.irv, L.ifv⟩ s.index := ⟨h.box, h.ir, h.if_, h.ap.ii, h.low⟩
end
/-- From w to w' a builder has come to hold s'. -/
def GoesT (base : Nat) (L : TL) (w : World) (s' : TS) (w' : World) : Prop :=
  ∃ L', L'.b = L.b ∧ BuiltT w' base L' s' ∧ Turns (OwnT L) w w' ∧ ∀ k, OwnT L' k → OwnT L k ∨ w.heap.size ≤ k
theorem GoesT.refl {w : World} {base : Nat} {L : TL} {s : TS} (h : BuiltT w base L s) : GoesT base L w s w := ⟨L, rfl, h, Turns.refl _ _, fun _ h => Or.inl h⟩
theorem GoesT.below {w w1 w2 : World} {base : Nat} {L : TL} {s : TS} (h : GoesT base L w s w1) (hb : Below w1.heap.size w1 w2) : GoesT base L w s w2 := by
  obtain ⟨L', e, h1, h2, h3⟩ := h
  exact ⟨L', e, h1.below hb, h2.below hb, h3⟩
theorem GoesT.trans {w w1 w2 : World} {base : Nat} {L L1 : TL} {s : TS} (e1 : L1.b = L.b) (h2 : Turns (OwnT L) w w1) (h3 : ∀ k, OwnT L1 k → OwnT L k ∨ w.heap.size ≤ k) (k : GoesT base L1 w1 s w2) : GoesT base L w s w2 := by
  obtain ⟨L2, f1, g1, g2, g3⟩ := k
  refine ⟨L2, f1.trans e1, g1, h2.trans g2 h3, fun k hk => ?_⟩
  rcases g3 k hk with h | h
  · exact h3 k h
  · exact Or.inr (Nat.le_trans h2.size h)
/-- The same from a later world on. -/
theorem GoesT.after {w w1 w2 : World} {base : Nat} {L : TL} {s : TS} (hb : Below w.heap.size w w1) (k : GoesT base L w1 s w2) : GoesT base L w s w2 :=
  GoesT.trans rfl (Turns.of_below hb) (fun _ h => Or.inl h) k
theorem GoesT.to_below {w w' : World} {base : Nat} {L : TL} {s s' : TS} (h : BuiltT w base L s) (hg : GoesT base L w s' w') : Below base w w' := by
  obtain ⟨L', e, h1, h2, h3⟩ := hg
  exact h2.to_below (Nat.le_of_lt (Nat.lt_of_le_of_lt h.low (heap_lt h.box))) (fun k hk => h.own_ge hk)
section
variable {w w1 w' : World} {base : Nat} {L : TL} {s : TS}
/-- The block that goes on has turned. -/
theorem BuiltT.with_data (h : BuiltT w base L s) {d : Bo.St} (hg : GoesB base ⟨seatD L s, L.drv, L.dfv⟩ w d w') : GoesT base L w { s with data := d } w' := by
  obtain ⟨⟨se, rv, fv⟩, e, hb, ht, ho⟩ := hg
  dsimp only at e
  subst e
  obtain ⟨n1, n2, n3, n4⟩ := h.box_ne
  have hbox : w'.heap[L.b]? = some (.cells (cellsT { L with drv := rv, dfv := fv } { s with data := d }) 66 (0, 0)) := hb.box
  have hin : ∀ k, OwnB ⟨seatD L s, L.drv, L.dfv⟩ k → k = L.b ∨ isD L k := fun k hk => hk
  have hnew : ∀ k, rv.ownBlock = some k ∨ fv.ownBlock = some k → (k = L.b ∨ isD L k) ∨ w.heap.size ≤ k := fun k hk => (ho k (Or.inr hk)).imp (hin k) id
  have hnb : ∀ k, rv.ownBlock = some k ∨ fv.ownBlock = some k → k ≠ L.b := fun k hk e => by
    subst e
    rcases hk with hk | hk
    · obtain ⟨cs, hc⟩ := ownsRow_obj hb.rows hk
      exact obj_cells_ne hbox hc (by decide) rfl
    · obtain ⟨cs, hc⟩ := ownsRow_obj hb.foot hk
      exact obj_cells_ne hbox hc (by decide) rfl
  have hsame : ∀ k, k < w.heap.size → k ≠ L.b → ¬ isD L k → w'.heap[k]? = w.heap[k]? := fun k h1 h2 h3 => ht.block k h1 (fun hk => (hin k hk).elim h2 h3)
  have hnd : ∀ (P : Nat → Prop), (∀ k, P k → k < w.heap.size) → Ap (isD L) P → ∀ k, rv.ownBlock = some k ∨ fv.ownBlock = some k → ¬ P k := fun P hl hd k hk hp => by
    rcases hnew k hk with (e | e) | e
    · exact hnb k hk e
    · exact hd k e hp
    · have := hl k hp; omega
  have lK : ∀ k, isK L k → k < w.heap.size := fun k e => h.own_lt (Or.inr (Or.inl e))
  have lI : ∀ k, isI L k → k < w.heap.size := fun k e => h.own_lt (Or.inr (Or.inr (Or.inr (Or.inl e))))
  have lT : ∀ k, isT L k → k < w.heap.size := fun k e => h.own_lt (Or.inr (Or.inr (Or.inr (Or.inr e))))
  refine ⟨{ L with drv := rv, dfv := fv }, rfl, ⟨hbox, ?_, hb.rows, hb.foot, ?_, ?_, ?_, ⟨hb.apart, h.ap.ii, ?_, h.ap.ki, h.ap.kt, hnd _ lI h.ap.di, hnd _ lT h.ap.dt, h.ap.it⟩, h.low⟩, ht.mono (fun k hk => Or.inl ((hin k hk).imp id (fun e => Or.inr (Or.inl e)))), fun k hk => ?_⟩
  · exact ownsRow_frame h.keys fun k e => hsame k (lK k e) (fun x => n1 (x ▸ e)) (h.ap.kd k e)
  · exact ownsRow_frame h.ir fun k e => hsame k (lI k (Or.inl e)) (fun x => n3 (x ▸ Or.inl e)) (fun x => h.ap.di k x (Or.inl e))
  · exact ownsRow_frame h.if_ fun k e => hsame k (lI k (Or.inr e)) (fun x => n3 (x ▸ Or.inr e)) (fun x => h.ap.di k x (Or.inr e))
  · exact ownsRow_frame h.told fun k e => hsame k (lT k e) (fun x => n4 (x ▸ e)) (fun x => h.ap.dt k x e)
  · intro k hk hd
    exact hnd _ lK (fun k a b => h.ap.kd k b a) k hd hk
  · rcases hk with rfl | hk | hk | hk | hk
    · exact Or.inl (Or.inl rfl)
    · exact Or.inl (Or.inr (Or.inl hk))
    · rcases hnew k hk with (e | e) | e
      · exact Or.inl (Or.inl e)
      · exact Or.inl (Or.inr (Or.inr (Or.inl e)))
      · exact Or.inr e
    · exact Or.inl (Or.inr (Or.inr (Or.inr (Or.inl hk))))
    · exact Or.inl (Or.inr (Or.inr (Or.inr (Or.inr hk))))
/-- The index has turned. -/
theorem BuiltT.with_index (h : BuiltT w base L s) {d : Bo.St} (hg : GoesB base ⟨seatI L s, L.irv, L.ifv⟩ w d w') : GoesT base L w { s with index := d } w' := by
  obtain ⟨⟨se, rv, fv⟩, e, hb, ht, ho⟩ := hg
  dsimp only at e
  subst e
  obtain ⟨n1, n2, n3, n4⟩ := h.box_ne
  have hbox : w'.heap[L.b]? = some (.cells (cellsT { L with irv := rv, ifv := fv } { s with index := d }) 66 (0, 0)) := hb.box
  have hin : ∀ k, OwnB ⟨seatI L s, L.irv, L.ifv⟩ k → k = L.b ∨ isI L k := fun k hk => hk
  have hnew : ∀ k, rv.ownBlock = some k ∨ fv.ownBlock = some k → (k = L.b ∨ isI L k) ∨ w.heap.size ≤ k := fun k hk => (ho k (Or.inr hk)).imp (hin k) id
  have hnb : ∀ k, rv.ownBlock = some k ∨ fv.ownBlock = some k → k ≠ L.b := fun k hk e => by
    subst e
    rcases hk with hk | hk
    · obtain ⟨cs, hc⟩ := ownsRow_obj hb.rows hk
      exact obj_cells_ne hbox hc (by decide) rfl
    · obtain ⟨cs, hc⟩ := ownsRow_obj hb.foot hk
      exact obj_cells_ne hbox hc (by decide) rfl
  have hsame : ∀ k, k < w.heap.size → k ≠ L.b → ¬ isI L k → w'.heap[k]? = w.heap[k]? := fun k h1 h2 h3 => ht.block k h1 (fun hk => (hin k hk).elim h2 h3)
  have hnd : ∀ (P : Nat → Prop), (∀ k, P k → k < w.heap.size) → Ap (isI L) P → ∀ k, rv.ownBlock = some k ∨ fv.ownBlock = some k → ¬ P k := fun P hl hd k hk hp => by
    rcases hnew k hk with (e | e) | e
    · exact hnb k hk e
    · exact hd k e hp
    · have := hl k hp; omega
  have lK : ∀ k, isK L k → k < w.heap.size := fun k e => h.own_lt (Or.inr (Or.inl e))
  have lD : ∀ k, isD L k → k < w.heap.size := fun k e => h.own_lt (Or.inr (Or.inr (Or.inl e)))
  have lT : ∀ k, isT L k → k < w.heap.size := fun k e => h.own_lt (Or.inr (Or.inr (Or.inr (Or.inr e))))
  refine ⟨{ L with irv := rv, ifv := fv }, rfl, ⟨hbox, ?_, ?_, ?_, hb.rows, hb.foot, ?_, ⟨h.ap.dd, hb.apart, h.ap.kd, ?_, h.ap.kt, ?_, h.ap.dt, hnd _ lT h.ap.it⟩, h.low⟩, ht.mono (fun k hk => Or.inl ((hin k hk).imp id (fun e => Or.inr (Or.inr (Or.inl e))))), fun k hk => ?_⟩
  · exact ownsRow_frame h.keys fun k e => hsame k (lK k e) (fun x => n1 (x ▸ e)) (h.ap.ki k e)
  · exact ownsRow_frame h.dr fun k e => hsame k (lD k (Or.inl e)) (fun x => n2 (x ▸ Or.inl e)) (h.ap.di k (Or.inl e))
  · exact ownsRow_frame h.df fun k e => hsame k (lD k (Or.inr e)) (fun x => n2 (x ▸ Or.inr e)) (h.ap.di k (Or.inr e))
  · exact ownsRow_frame h.told fun k e => hsame k (lT k e) (fun x => n4 (x ▸ e)) (fun x => h.ap.it k x e)
  · intro k hk hd
    exact hnd _ lK (fun k a b => h.ap.ki k b a) k hd hk
  · intro k hk hd
    exact hnd _ lD (fun k a b => h.ap.di k b a) k hd hk
  · rcases hk with rfl | hk | hk | hk | hk
    · exact Or.inl (Or.inl rfl)
    · exact Or.inl (Or.inr (Or.inl hk))
    · exact Or.inl (Or.inr (Or.inr (Or.inl hk)))
    · rcases hnew k hk with (e | e) | e
      · exact Or.inl (Or.inl e)
      · exact Or.inl (Or.inr (Or.inr (Or.inr (Or.inl e))))
      · exact Or.inr e
    · exact Or.inl (Or.inr (Or.inr (Or.inr (Or.inr hk))))
/-- One of its cells is stored that is no row. -/
theorem BuiltT.set (h : BuiltT w base L s) (k : Nat) (v : Value) {s' : TS} (hc : (cellsT L s).setIfInBounds k v = cellsT L s') (hk : s'.keys = s.keys) (hd : s'.data.rows = s.data.rows ∧ s'.data.foot = s.data.foot) (hi : s'.index.rows = s.index.rows ∧ s'.index.foot = s.index.foot) (ht : s'.told = s.told) :
    GoesT base L w s' (w.setCell ⟨L.b, k, none⟩ v) := by
  obtain ⟨n1, n2, n3, n4⟩ := h.box_ne
  have key : ∀ j, j ≠ L.b → (w.setCell ⟨L.b, k, none⟩ v).heap[j]? = w.heap[j]? := fun j hj => setCell_kept _ _ _ hj
  refine ⟨L, rfl, ⟨?_, ?_, ?_, ?_, ?_, ?_, ?_, h.ap, h.low⟩, Turns.of_setCell (P := OwnT L) _ _ _ (Or.inl rfl), fun k hk => Or.inl hk⟩
  · rw [heap_setCell_same w L.b k _ _ v h.box, hc]
  · rw [hk]; exact ownsRow_frame h.keys fun j e => key j (fun x => n1 (x ▸ e))
  · rw [hd.1]; exact ownsRow_frame h.dr fun j e => key j (fun x => n2 (x ▸ Or.inl e))
  · rw [hd.2]; exact ownsRow_frame h.df fun j e => key j (fun x => n2 (x ▸ Or.inr e))
  · rw [hi.1]; exact ownsRow_frame h.ir fun j e => key j (fun x => n3 (x ▸ Or.inl e))
  · rw [hi.2]; exact ownsRow_frame h.if_ fun j e => key j (fun x => n3 (x ▸ Or.inr e))
  · rw [ht]; exact ownsRow_frame h.told fun j e => key j (fun x => n4 (x ▸ e))
/-- Its pieces have grown, and are stored. -/
theorem BuiltT.grow_told (h : BuiltT w base L s) {v : Value} {l : List UInt8} (hown : Owns w1 base v l) (hg : w.grownBy w1 L.tv.ownBlock) (hb : ∀ k, v.ownBlock = some k → L.tv.ownBlock = some k ∨ w.heap.size ≤ k) :
    GoesT base L w { s with told := l } (w1.setCell ⟨L.b, 17, none⟩ v) := by
  obtain ⟨n1, n2, n3, n4⟩ := h.box_ne
  have hlt : L.b < w.heap.size := heap_lt h.box
  have hbox1 := (hg.block L.b hlt (fun e => n4 e.symm)).trans h.box
  have hsv : ∀ k, v.ownBlock = some k → k ≠ L.b := fun k hk e => by
    subst e
    rcases hb _ hk with e | e
    · exact n4 e
    · omega
  have lK : ∀ k, isK L k → k < w.heap.size := fun k e => h.own_lt (Or.inr (Or.inl e))
  have lD : ∀ k, isD L k → k < w.heap.size := fun k e => h.own_lt (Or.inr (Or.inr (Or.inl e)))
  have lI : ∀ k, isI L k → k < w.heap.size := fun k e => h.own_lt (Or.inr (Or.inr (Or.inr (Or.inl e))))
  have hsame : ∀ k, k < w.heap.size → k ≠ L.b → ¬ isT L k → (w1.setCell ⟨L.b, 17, none⟩ v).heap[k]? = w.heap[k]? := fun k h1 h2 h3 => (setCell_kept _ _ _ h2).trans (hg.block k h1 (fun e => h3 e.symm))
  have hnt : ∀ (P : Nat → Prop), (∀ k, P k → k < w.heap.size) → Ap P (isT L) → ∀ k, P k → v.ownBlock ≠ some k := fun P hl hd k hp hk => by
    rcases hb k hk with e | e
    · exact hd k hp e
    · have := hl k hp; omega
  refine ⟨{ L with tv := v }, rfl, ⟨?_, ?_, ?_, ?_, ?_, ?_, ?_, ⟨h.ap.dd, h.ap.ii, h.ap.kd, h.ap.ki, hnt _ lK h.ap.kt, h.ap.di, hnt _ lD h.ap.dt, hnt _ lI h.ap.it⟩, h.low⟩, ?_, fun k hk => ?_⟩
  · rw [heap_setCell_same w1 L.b 17 _ _ v hbox1]
    rfl
  · exact ownsRow_frame h.keys fun k e => hsame k (lK k e) (fun x => n1 (x ▸ e)) (h.ap.kt k e)
  · exact ownsRow_frame h.dr fun k e => hsame k (lD k (Or.inl e)) (fun x => n2 (x ▸ Or.inl e)) (h.ap.dt k (Or.inl e))
  · exact ownsRow_frame h.df fun k e => hsame k (lD k (Or.inr e)) (fun x => n2 (x ▸ Or.inr e)) (h.ap.dt k (Or.inr e))
  · exact ownsRow_frame h.ir fun k e => hsame k (lI k (Or.inl e)) (fun x => n3 (x ▸ Or.inl e)) (h.ap.it k (Or.inl e))
  · exact ownsRow_frame h.if_ fun k e => hsame k (lI k (Or.inr e)) (fun x => n3 (x ▸ Or.inr e)) (h.ap.it k (Or.inr e))
  · exact ownsRow_frame hown fun k hk => setCell_kept _ _ _ (hsv k hk)
  · refine (Turns.of_grown (P := OwnT L) hg (fun k e => Or.inr (Or.inr (Or.inr (Or.inr e))))).trans (Turns.of_setCell (P := fun k => k = L.b) _ _ _ rfl) (fun x hx => Or.inl (Or.inl hx))
  · rcases hk with rfl | hk | hk | hk | hk
    · exact Or.inl (Or.inl rfl)
    · exact Or.inl (Or.inr (Or.inl hk))
    · exact Or.inl (Or.inr (Or.inr (Or.inl hk)))
    · exact Or.inl (Or.inr (Or.inr (Or.inr (Or.inl hk))))
    · exact (hb k hk).imp (fun e => Or.inr (Or.inr (Or.inr (Or.inr e)))) id
/-- Its keys have grown, and are stored. -/
theorem BuiltT.grow_keys (h : BuiltT w base L s) {v : Value} {l : List ByteArray} (hown : OwnsS w1 base v l) (hg : w.grownBy w1 L.kv.ownBlock) (hb : ∀ k, v.ownBlock = some k → L.kv.ownBlock = some k ∨ w.heap.size ≤ k) :
    GoesT base L w { s with keys := l } (w1.setCell ⟨L.b, 8, none⟩ v) := by
  obtain ⟨n1, n2, n3, n4⟩ := h.box_ne
  have hlt : L.b < w.heap.size := heap_lt h.box
  have hbox1 := (hg.block L.b hlt (fun e => n1 e.symm)).trans h.box
  have hsv : ∀ k, v.ownBlock = some k → k ≠ L.b := fun k hk e => by
    subst e
    rcases hb _ hk with e | e
    · exact n1 e
    · omega
  have lT : ∀ k, isT L k → k < w.heap.size := fun k e => h.own_lt (Or.inr (Or.inr (Or.inr (Or.inr e))))
  have lD : ∀ k, isD L k → k < w.heap.size := fun k e => h.own_lt (Or.inr (Or.inr (Or.inl e)))
  have lI : ∀ k, isI L k → k < w.heap.size := fun k e => h.own_lt (Or.inr (Or.inr (Or.inr (Or.inl e))))
  have hsame : ∀ k, k < w.heap.size → k ≠ L.b → ¬ isK L k → (w1.setCell ⟨L.b, 8, none⟩ v).heap[k]? = w.heap[k]? := fun k h1 h2 h3 => (setCell_kept _ _ _ h2).trans (hg.block k h1 (fun e => h3 e.symm))
  have hnt : ∀ (P : Nat → Prop), (∀ k, P k → k < w.heap.size) → Ap (isK L) P → ∀ k, v.ownBlock = some k → ¬ P k := fun P hl hd k hk hp => by
    rcases hb k hk with e | e
    · exact hd k e hp
    · have := hl k hp; omega
  refine ⟨{ L with kv := v }, rfl, ⟨?_, ?_, ?_, ?_, ?_, ?_, ?_, ⟨h.ap.dd, h.ap.ii, hnt _ lD h.ap.kd, hnt _ lI h.ap.ki, hnt _ lT h.ap.kt, h.ap.di, h.ap.dt, h.ap.it⟩, h.low⟩, ?_, fun k hk => ?_⟩
  · rw [heap_setCell_same w1 L.b 8 _ _ v hbox1]
    rfl
  · exact ownsRow_frame hown fun k hk => setCell_kept _ _ _ (hsv k hk)
  · exact ownsRow_frame h.dr fun k e => hsame k (lD k (Or.inl e)) (fun x => n2 (x ▸ Or.inl e)) (fun x => h.ap.kd k x (Or.inl e))
  · exact ownsRow_frame h.df fun k e => hsame k (lD k (Or.inr e)) (fun x => n2 (x ▸ Or.inr e)) (fun x => h.ap.kd k x (Or.inr e))
  · exact ownsRow_frame h.ir fun k e => hsame k (lI k (Or.inl e)) (fun x => n3 (x ▸ Or.inl e)) (fun x => h.ap.ki k x (Or.inl e))
  · exact ownsRow_frame h.if_ fun k e => hsame k (lI k (Or.inr e)) (fun x => n3 (x ▸ Or.inr e)) (fun x => h.ap.ki k x (Or.inr e))
  · exact ownsRow_frame h.told fun k e => hsame k (lT k e) (fun x => n4 (x ▸ e)) (fun x => h.ap.kt k x e)
  · refine (Turns.of_grown (P := OwnT L) hg (fun k e => Or.inr (Or.inl e))).trans (Turns.of_setCell (P := fun k => k = L.b) _ _ _ rfl) (fun x hx => Or.inl (Or.inl hx))
  · rcases hk with rfl | hk | hk | hk | hk
    · exact Or.inl (Or.inl rfl)
    · exact (hb k hk).imp (fun e => Or.inr (Or.inl e)) id
    · exact Or.inl (Or.inr (Or.inr (Or.inl hk)))
    · exact Or.inl (Or.inr (Or.inr (Or.inr (Or.inl hk))))
    · exact Or.inl (Or.inr (Or.inr (Or.inr (Or.inr hk))))
end
section
variable {w w1 : World} {base : Nat} {L : TL} {s s1 s' : TS}
theorem GoesT.cell (h : GoesT base L w s1 w1) (k : Nat) {v : Value} (hc : ∀ L', (cellsT L' s1)[k]? = some v) : w1.cell? ⟨L.b, k, none⟩ = some v := by
  obtain ⟨L', e, hb, _, _⟩ := h
  rw [← e, hb.cell k, hc]
theorem GoesT.soft (h : GoesT base L w s1 w1) (k : Nat) : w1.frozen? ⟨L.b, k, none⟩ = false := by
  obtain ⟨L', e, hb, _, _⟩ := h
  rw [← e, hb.soft k]
theorem GoesT.put (h : GoesT base L w s1 w1) (k : Nat) (v : Value) (hc : ∀ L', (cellsT L' s1).setIfInBounds k v = cellsT L' s') (hk : s'.keys = s1.keys) (hd : s'.data.rows = s1.data.rows ∧ s'.data.foot = s1.data.foot) (hi : s'.index.rows = s1.index.rows ∧ s'.index.foot = s1.index.foot) (ht : s'.told = s1.told) :
    GoesT base L w s' (w1.setCell ⟨L.b, k, none⟩ v) := by
  obtain ⟨L', e, hb, ht2, ho⟩ := h
  have := hb.set k v (hc L') hk hd hi ht
  rw [e] at this
  exact GoesT.trans e ht2 ho this
theorem GoesT.lt (h : GoesT base L w s1 w1) : L.b < w1.heap.size := by
  obtain ⟨L', e, hb, _, _⟩ := h
  rw [← e]
  exact heap_lt hb.box
end
/-- From w to w' a builder has come to hold s', and lies where it lay. -/
structure Stays (base : Nat) (L : TL) (w : World) (s' : TS) (w' : World) : Prop where
  h : BuiltT w' base L s'
  t : Turns (OwnT L) w w'
section
variable {w w1 w2 : World} {base : Nat} {L : TL} {s s1 s' : TS}
theorem Stays.goes (h : Stays base L w s' w1) : GoesT base L w s' w1 := ⟨L, rfl, h.h, h.t, fun _ h => Or.inl h⟩
theorem Stays.refl (h : BuiltT w base L s) : Stays base L w s w := ⟨h, Turns.refl _ _⟩
theorem Stays.below (h : Stays base L w s' w1) (hb : Below w1.heap.size w1 w2) : Stays base L w s' w2 := ⟨h.h.below hb, h.t.below hb⟩
theorem Stays.drew (h : Stays base L w s' w1) : Stays base L w s' w1.drew := ⟨h.h.drew, h.t.drew⟩
theorem Stays.then (h : Stays base L w s1 w1) (hg : GoesT base L w1 s' w2) : GoesT base L w s' w2 := GoesT.trans rfl h.t (fun _ h => Or.inl h) hg
theorem Stays.put (h : Stays base L w s1 w1) (k : Nat) (v : Value) (hc : (cellsT L s1).setIfInBounds k v = cellsT L s') (hk : s'.keys = s1.keys) (hd : s'.data.rows = s1.data.rows ∧ s'.data.foot = s1.data.foot) (hi : s'.index.rows = s1.index.rows ∧ s'.index.foot = s1.index.foot) (ht : s'.told = s1.told) :
    Stays base L w s' (w1.setCell ⟨L.b, k, none⟩ v) := by
  obtain ⟨n1, n2, n3, n4⟩ := h.h.box_ne
  have key : ∀ j, j ≠ L.b → (w1.setCell ⟨L.b, k, none⟩ v).heap[j]? = w1.heap[j]? := fun j hj => setCell_kept _ _ _ hj
  refine ⟨⟨?_, ?_, ?_, ?_, ?_, ?_, ?_, h.h.ap, h.h.low⟩, h.t.trans (Turns.of_setCell (P := OwnT L) _ _ _ (Or.inl rfl)) (fun k hk => Or.inl hk)⟩
  · rw [heap_setCell_same w1 L.b k _ _ v h.h.box, hc]
  · rw [hk]; exact ownsRow_frame h.h.keys fun j e => key j (fun x => n1 (x ▸ e))
  · rw [hd.1]; exact ownsRow_frame h.h.dr fun j e => key j (fun x => n2 (x ▸ Or.inl e))
  · rw [hd.2]; exact ownsRow_frame h.h.df fun j e => key j (fun x => n2 (x ▸ Or.inr e))
  · rw [hi.1]; exact ownsRow_frame h.h.ir fun j e => key j (fun x => n3 (x ▸ Or.inl e))
  · rw [hi.2]; exact ownsRow_frame h.h.if_ fun j e => key j (fun x => n3 (x ▸ Or.inr e))
  · rw [ht]; exact ownsRow_frame h.h.told fun j e => key j (fun x => n4 (x ▸ e))
end
end Go.Proofs.YtphoihkbdogkhaaDoor.Bn.Tw
