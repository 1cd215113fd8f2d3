/- The document's Get, Row, over rows that lie in memory. -/
import Derived.Test.YtghfgffgcknbmaaSkV
namespace Go.Proofs.Ytghfgffgcknbmaa.Sk
open Go Go.RowKit
set_option linter.unusedVariables false

theorem find_drop {K : Str} {r : List (It ByteArray)} {k : Nat} {y : It ByteArray} (h : r[k]? = some y) : find K (r.drop k) = if y.key = K then some y else find K (r.drop (k + 1)) := by
  obtain ⟨h1, rfl⟩ := List.getElem?_eq_some_iff.1 h
  rw [List.drop_eq_getElem_cons h1]
  by_cases e : (r[k]).key = K
  · rw [if_pos e, find_cons_eq e]
  · rw [if_neg e, find_cons_ne e]
set_option maxHeartbeats 2000000 in
set_option maxRecDepth 100000 in
theorem refGet_any {base : Nat} {w : World} {ao : Option Addr} {m cap : Nat} {r : List (It ByteArray)} (h : Items base w (.slice ao m cap) r) (K : ByteArray) (hm : r.length ≤ 100000) :
    Calls Try.prog 38 #[.slice ao m cap, .string K] w fun e w' => e = .returned (getV (find K.data.toList r)) ∧ w' = w := by
  obtain rfl : m = r.length := (row_here h).1
  have HI := Lib.hid h
  have hmi : (r.length : Int) ≤ 100000 := by omega
  have H0 : Hid (find K.data.toList r = find K.data.toList (r.drop 0)) := Lib.hid rfl
  generalize hF : find K.data.toList r = F at *
  clear h hF
  go_enter Try.func38, Try.ntmps38
  go_wp2_with fail
  go_loopw [6] (fun i wr => ∃ (k : Nat), k ≤ r.length ∧ i = .int .i64 (k : Int) ∧ Hid (F = find K.data.toList (r.drop k)) ∧ wr = w) (fun i _ => r.length - (intOf i).toNat)
  case atStart => exact ⟨0, Nat.zero_le _, rfl, H0, rfl⟩
  case round =>
    obtain ⟨k, hk, rfl, HF, rfl⟩ := hrel
    by_cases hkr : k < r.length
    · obtain ⟨y, hy⟩ : ∃ y, r[k]? = some y := ⟨r[k], List.getElem?_eq_getElem _⟩
      have hki : (k : Int) < r.length := by omega
      obtain ⟨g, rfl, hg, c0, c1, c2⟩ := HI.out.get hy
      have HD := Lib.hid (find_drop (K := K.data.toList) hy)
      clear hy
      by_cases hkey : y.key = K.data.toList
      · have HR : Hid (F = some y) := Lib.hid (by rw [HF.out, HD.out, if_pos hkey])
        rw [txt_of hkey] at c0
        clear hkey
        go_wp2_with fail
        rw [HR.out]
        refine bodyPost_ret (v := getV (some y)) ?_ rfl ⟨rfl, rfl⟩
        simp [results, Try.results38, getV]
      · have HN : Hid (F = find K.data.toList (r.drop (k + 1))) := Lib.hid (by rw [HF.out, HD.out, if_neg hkey])
        have hne : ((txt y.key).toList == K.toList) = false := by
          rw [txt_list, ByteArray.toList_eq]
          exact beq_false_of_ne fun e => hkey e
        clear hkey
        go_wp2_with fail
        go_roundw
        case rel => exact ⟨k + 1, by omega, by go_num, HN, trivial⟩
        case measure => simp [intOf]; omega
    · obtain rfl : k = r.length := by omega
      have HE : Hid (F = none) := Lib.hid (by rw [HF.out, List.drop_length]; rfl)
      clear HF
      go_wp2_with fail
      rw [HE.out]
      refine bodyPost_ret (v := getV none) ?_ rfl ⟨rfl, rfl⟩
      simp [results, Try.results38, getV, ByteArray.empty, ByteArray.emptyWithCapacity]
      rfl

/-- How many are not told yet. -/
def ahead (K : Str) (above : Bool) (s : List (It ByteArray)) : Nat := (s.filter (ok K above)).length
theorem ahead_all (s : List (It ByteArray)) : ahead [] false s = s.length := by
  unfold ahead
  rw [List.filter_eq_self.2 fun y _ => by unfold ok; rw [lt_nil]; rfl]
theorem ahead_at {A B : List (It ByteArray)} {y : It ByteArray} (h : Up (A ++ y :: B)) : ahead y.key true (A ++ y :: B) = B.length := by
  unfold ahead
  have h0 := List.pairwise_append.1 h
  have h1 := List.pairwise_cons.1 h0.2.1
  rw [List.filter_append, List.filter_eq_nil_iff.2, List.nil_append, List.filter_cons_of_neg (by rw [ok_above]; exact lt_irr _), List.filter_eq_self.2]
  · intro z hz; rw [ok_above]; exact h1.1 z hz
  · intro z hz; rw [ok_above, lt_asym (h0.2.2 z hz y (List.mem_cons_self ..))]; decide
theorem after_here {A B : List (It ByteArray)} {y : It ByteArray} (h : Up (A ++ y :: B)) : after y.key (A ++ y :: B) = B.head? := by
  have hk : (A ++ y :: B)[A.length]? = some y := by simp
  rw [after_at h hk, List.getElem?_append_right (by omega)]
  cases B <;> simp
def strL : Value → Str
  | .string b => b.data.toList
  | _ => []
def boolB : Value → Bool
  | .bool b => b
  | _ => false
theorem info_itm : (Try.prog.info? 45).map (fun i => (i.zero, i.size, i.bytes)) = some (some (.agg #[.string ⟨#[]⟩, .string ⟨#[]⟩, .int .i64 0]), 3, 40) := by kernel_rfl
theorem items_snoc {base : Nat} {W : World} {v : Value} {A : List (It ByteArray)} {y : It ByteArray} (h : W.ownsRow base 45 3 v (A.length + 1) (A.flatMap itCells ++ [.string (txt y.key), .string y.val, .int .i64 (y.h : Int)])) : Items base W v (A ++ [y]) := by
  unfold Items
  rw [List.length_append, List.flatMap_append]
  exact h

set_option maxHeartbeats 4000000 in
set_option maxRecDepth 100000 in
theorem refRow_in {base : Nat} {w : World} {ao : Option Addr} {m cap : Nat} {s r : List (It ByteArray)} (h : Items base w (.slice ao m cap) r) (hk : Kin s r) (hr : ∀ y ∈ r, y.key.length ≤ 1000000) (hm : r.length ≤ 100000) (lev : Nat) :
    Calls Try.prog 40 #[.slice ao m cap, .int .i64 (lev : Int)] w fun e w' => ∃ v, e = .returned v ∧ Items w.heap.size w' v (row lev s) ∧ Below w.heap.size w w' := by
  obtain ⟨i0, hi, hz0, hz1, hz2⟩ := info_parts info_itm
  have HI := Lib.hid h
  have hmi : (r.length : Int) ≤ 100000 := by omega
  have hlen : s.length ≤ 100000 := by rw [hk.len]; exact hm
  have HK := Lib.hid hk
  have HLE := Lib.hid (fun (W : World) (hb : Below w.heap.size w W) (K : ByteArray) (above : Bool) (hK : K.size ≤ 1000000) => least_any (h.below hb) K above hK hr hm)
  have HS : Hid (∀ y ∈ s, y.key.length ≤ 1000000) := Lib.hid fun y hy => hr y ((hk.mem y).1 hy)
  have hl0 : ¬ (lev : Int) < 0 := by omega
  clear h hk hr
  go_enter Try.func40, Try.ntmps40
  go_wp2_with fail
  go_loopw [5, 6, 7] (fun v kk ab wr => ∃ (A B : List (It ByteArray)) (K : ByteArray) (above : Bool), s = A ++ B ∧ kk = .string K ∧ ab = .bool above ∧ K.size ≤ 1000000 ∧ Hid (least K.data.toList above r = B.head?) ∧ Hid (ahead K.data.toList above s = B.length) ∧ Hid (Items w.heap.size wr v (row lev A)) ∧ Hid (Below w.heap.size w wr)) (fun _ kk ab _ => ahead (strL kk) (boolB ab) s)
  case atStart => exact ⟨[], s, ⟨#[]⟩, false, rfl, rfl, rfl, Nat.zero_le _, Lib.hid (by rw [HK.out.seek]; exact seek_all), Lib.hid (ahead_all s), Lib.hid (World.ownsRow_nil ..), Lib.hid (Below.refl _ _)⟩
  case round =>
    obtain ⟨A, B, K, above, hs, rfl, rfl, hK, HL, HA, HO, HB⟩ := hrel
    have HC := Lib.hid (HLE.out wr HB.out K above hK)
    rw [HL.out] at HC
    cases B with
    | nil =>
      simp only [List.head?_nil, leastV] at HC
      have HE : Hid (row lev s = row lev A) := Lib.hid (by rw [hs, List.append_nil])
      clear hs
      go_wp2_with fail
      refine HC.out.mono ?_
      rintro e w1 ⟨rfl, hb1⟩
      have HB1 := Lib.hid (Below.next HB.out hb1)
      have HO1 := Lib.hid (HO.out.below hb1)
      clear hb1
      go_wp2_with fail
      go_ret
      rw [HE.out]
      exact ⟨_, rfl, HO1.out.below ((Below.refl _ _).alloc (Nat.le_refl _) _), HB1.out.alloc HB1.out.size _⟩
    | cons y B =>
      simp only [List.head?_cons, leastV] at HC
      have hy : y ∈ s := by rw [hs]; simp
      have hyl := HS.out y hy
      have hU : Up (A ++ y :: B) := by rw [← hs]; exact HK.out.up
      have HL2 : Hid (least y.key true r = B.head?) := Lib.hid (by rw [HK.out.after, hs]; exact after_here hU)
      have HA2 : Hid (ahead y.key true s = B.length) := Lib.hid (by rw [hs]; exact ahead_at hU)
      have HS2 : Hid (s = (A ++ [y]) ++ B) := Lib.hid (by rw [hs]; simp)
      have hal : (row lev A).length ≤ 100000 := by
        have h1 : (row lev A).length ≤ A.length := List.length_filter_le ..
        have h2 : A.length ≤ s.length := by rw [hs]; simp
        omega
      have HAL := Lib.hid hal
      have hts : (txt y.key).size ≤ 1000000 := by rw [txt_size]; omega
      clear hs hU hy hal
      by_cases hyh : lev < y.h
      · have HR : Hid (row lev (A ++ [y]) = row lev A ++ [y]) := Lib.hid (by
          have := row_snoc (j := lev) (A := A) (B1 := []) (y := y) (by simp) hyh
          simpa using this)
        have hyi : (lev : Int) < y.h := by omega
        generalize hrl : row lev A = rl at *
        clear hyh
        go_wp2_with fail
        refine HC.out.mono ?_
        rintro e w1 ⟨rfl, hb1⟩
        have HB1 := Lib.hid (Below.next HB.out hb1)
        have hraw : w1.ownsRow w.heap.size 45 3 _ rl.length (rl.flatMap itCells) := HO.out.below hb1
        clear hb1
        go_wp2_with (at_builtin; go_must (refine wpList_append_own _ rfl _ _ 31 rfl w.heap.size 45 i0 _ 3 40 Try.underlying31 hi hz0 hz1 hz2 rfl (by decide) _ _ _ rfl ((hraw.alloc _).alloc _) ⟨w1.heap.size + 1, 0, none⟩ 1 1 [_, _, _] rfl rfl (World.news_of_block (cs := #[_, _, _]) (fr := (0, 0)) (heap_alloc2_new w1 _ _)) ?c2 ?c3 ?c4 ?c5 ?_))
        case c2 => intro u hu; simp at hu; rcases hu with rfl | rfl | rfl <;> rfl
        case c3 => have := HAL.out; unfold maxLen; omega
        case c4 => have := HAL.out; omega
        case c5 => have := HB1.out.size; simp; omega
        intro v2 w3 hown2 hgrow2 _
        have HW : Hid (Items w.heap.size w3 v2 (rl ++ [y]) ∧ Below w.heap.size w w3) :=
          Lib.hid ⟨items_snoc hown2, ((HB1.out.alloc HB1.out.size _).alloc (by have := HB1.out.size; simp; omega) _).grown hgrow2 (by have := HB1.out.size; simp; omega) (fun q hq => (hraw.lt q hq).1)⟩
        have hx := hgrow2.cell (cell_of (k := 0) ((RowKit.Below.heap_alloc _ _ _ (by simp)).trans (heap_alloc_new w1 _))) (fun e => Nat.lt_irrefl _ (hraw.lt _ e.symm).2)
        simp at hx
        clear hown2 hgrow2 hraw HB1 HO HB
        go_wp2_with fail
        go_roundw
        case rel => exact ⟨A ++ [y], B, txt y.key, true, HS2.out, rfl, rfl, hts, HL2, HA2, Lib.hid (by rw [HR.out]; exact HW.out.1), Lib.hid HW.out.2⟩
        case measure =>
          show ahead y.key true s < ahead K.data.toList above s
          rw [HA.out, HA2.out]; simp
      · have HR : Hid (row lev (A ++ [y]) = row lev A) := Lib.hid (by
          rw [row_append, row_none (A := [y]) (by intro z hz; rw [List.mem_singleton.1 hz]; exact hyh), List.append_nil])
        have hyi : ¬ (lev : Int) < y.h := by omega
        clear hyh
        go_wp2_with fail
        refine HC.out.mono ?_
        rintro e w1 ⟨rfl, hb1⟩
        have HB1 := Lib.hid (Below.next HB.out hb1)
        have HO1 := Lib.hid (HO.out.below hb1)
        clear hb1
        go_wp2_with fail
        go_roundw
        case rel => exact ⟨A ++ [y], B, txt y.key, true, HS2.out, rfl, rfl, hts, HL2, HA2, Lib.hid (by rw [HR.out]; exact HO1.out.below ((Below.refl _ _).alloc (Nat.le_refl _) _)), Lib.hid (HB1.out.alloc HB1.out.size _)⟩
        case measure =>
          show ahead y.key true s < ahead K.data.toList above s
          rw [HA.out, HA2.out]; simp

end Go.Proofs.Ytghfgffgcknbmaa.Sk
