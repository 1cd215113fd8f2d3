/- The walks of the statements' awake and Great. -/
import Derived.Test.YtohfjibhfbcanaaBtH
import Derived.BigQuiet
namespace Go.Proofs.Ytohfjibhfbcanaa
open Go.RowKit
set_option linter.unusedVariables false

/-- An entry that lies in memory. -/
def EnAt (w : World) (b off : Nat) (p : En) : Prop := w.cell? ⟨b, off, none⟩ = some (.string p.key) ∧ w.cell? ⟨b, off + 1, none⟩ = some (.string p.val) ∧ w.cell? ⟨b, off + 2, none⟩ = some (.int .u64 p.seq) ∧ w.cell? ⟨b, off + 3, none⟩ = some (.bool p.gone)
/-- A slice of entries that lies in memory. -/
def SeesE (w : World) (v : Value) (ps : List En) : Prop :=
  (ps = [] ∧ ∃ a cap, v = .slice a 0 cap) ∨
  ∃ b off cap, v = .slice (some ⟨b, off, none⟩) ps.length cap ∧ b < w.heap.size ∧ ∀ i, i < ps.length → EnAt w b (off + i * 4) (ps.getD i end')
theorem EnAt.below {w w' : World} {b off : Nat} {p : En} (h : EnAt w b off p) {B : Nat} (hb : Below B w w') (hB : b < B) : EnAt w' b off p := by
  obtain ⟨h0, h1, h2, h3⟩ := h
  exact ⟨(hb.cell (p := ⟨b, off, none⟩) hB).trans h0, (hb.cell (p := ⟨b, off + 1, none⟩) hB).trans h1, (hb.cell (p := ⟨b, off + 2, none⟩) hB).trans h2, (hb.cell (p := ⟨b, off + 3, none⟩) hB).trans h3⟩
theorem SeesE.below {w w' : World} {v : Value} {ps : List En} (h : SeesE w v ps) (hb : Below w.heap.size w w') : SeesE w' v ps := by
  rcases h with h | ⟨b, off, cap, rfl, hlt, hc⟩
  · exact Or.inl h
  · exact Or.inr ⟨b, off, cap, rfl, Nat.lt_of_lt_of_le hlt hb.size, fun i hi => (hc i hi).below hb hlt⟩
theorem cellsE_at (ps : List En) (i : Nat) (h : i < ps.length) : (ps.flatMap cellsE)[i * 4]? = some (.string (ps.getD i end').key) ∧ (ps.flatMap cellsE)[i * 4 + 1]? = some (.string (ps.getD i end').val) ∧ (ps.flatMap cellsE)[i * 4 + 2]? = some (.int .u64 (ps.getD i end').seq) ∧ (ps.flatMap cellsE)[i * 4 + 3]? = some (.bool (ps.getD i end').gone) := by
  induction ps generalizing i with
  | nil => simp at h
  | cons p ps ih =>
    cases i with
    | zero => simp [cellsE]
    | succ i =>
      have hi : i < ps.length := by simpa using h
      obtain ⟨h0, h1, h2, h3⟩ := ih i hi
      rw [List.getD_cons_succ, List.flatMap_cons]
      have e : ∀ j, (cellsE p ++ ps.flatMap cellsE)[(i + 1) * 4 + j]? = (ps.flatMap cellsE)[i * 4 + j]? := by
        intro j
        rw [List.getElem?_append_right (by simp [cellsE]; omega)]
        congr 1
        simp [cellsE]; omega
      exact ⟨(e 0).trans h0, (e 1).trans h1, (e 2).trans h2, (e 3).trans h3⟩
/-- What is the call's own lies in memory. -/
theorem OwnsE.sees {w : World} {base : Nat} {v : Value} {ps : List En} (h : OwnsE w base v ps) : SeesE w v ps := by
  have hl := h.1
  rcases h.2 with ⟨rfl, h0⟩ | ⟨g, cap, cur, rfl, hb, hg, hnc, hcm, hcs, htake⟩
  · exact Or.inl ⟨List.eq_nil_of_length_eq_zero h0, none, 0, rfl⟩
  · have hcell := h.cells (g := g) rfl
    refine Or.inr ⟨g, 0, cap, rfl, ?_, fun i hi => ?_⟩
    · rcases Nat.lt_or_ge g w.heap.size with hlt | hge
      · exact hlt
      · rw [Array.getElem?_eq_none hge] at hg; cases hg
    · obtain ⟨h0, h1, h2, h3⟩ := cellsE_at ps i hi
      have e : ∀ j, (⟨g, 0, none⟩ : Addr).add j = ⟨g, j, none⟩ := fun j => by unfold Addr.add; split <;> simp_all
      have c0 := hcell _ _ h0
      have c1 := hcell _ _ h1
      have c2 := hcell _ _ h2
      have c3 := hcell _ _ h3
      rw [e] at c0 c1 c2 c3
      exact ⟨by rw [Nat.zero_add]; exact c0, by rw [Nat.zero_add]; exact c1, by rw [Nat.zero_add]; exact c2, by rw [Nat.zero_add]; exact c3⟩
theorem SeesE.get {w : World} {ao : Option Addr} {len cap : Nat} {ps : List En} (h : SeesE w (.slice ao len cap) ps) :
    ps.length = len ∧ ∃ b off, ∀ i, i < len → ao = some ⟨b, off, none⟩ ∧ b < w.heap.size ∧ EnAt w b (off + i * 4) (ps.getD i end') := by
  rcases h with ⟨rfl, a, c, h⟩ | ⟨b, off, c, h, hb, hc⟩
  · simp only [Value.slice.injEq] at h
    obtain ⟨rfl, rfl, rfl⟩ := h
    exact ⟨rfl, 0, 0, fun i hi => by omega⟩
  · simp only [Value.slice.injEq] at h
    obtain ⟨rfl, rfl, rfl⟩ := h
    exact ⟨rfl, b, off, fun i hi => ⟨rfl, hb, hc i hi⟩⟩
theorem SeesE.slice {w : World} {v : Value} {ps : List En} (h : SeesE w v ps) : ∃ ao cap, v = .slice ao ps.length cap := by
  rcases h with ⟨rfl, a, c, rfl⟩ | ⟨b, off, cap, rfl, _⟩
  · exact ⟨_, _, rfl⟩
  · exact ⟨_, _, rfl⟩

/-- The chapter's first example. -/
def smallOps : List Ob := [⟨⟨#[97]⟩, ⟨#[120]⟩, false⟩, ⟨⟨#[98]⟩, ⟨#[]⟩, true⟩]
theorem small_chk : Bt.chk 7 smallOps = 0 := by decide +kernel
theorem small_encl : Bt.encl 7 smallOps = [7, 2, 0, 1, 97, 1, 120, 1, 1, 98] := by decide +kernel

set_option maxHeartbeats 1000000 in
theorem smallB_any (w : World) :
    Calls Try.prog 11 #[] w fun e w' => (∃ ao cap, e = .returned (batV 7 ao 2 cap) ∧ SeesO w' (.slice ao 2 cap) smallOps) ∧ Below w.heap.size w w' := by
  go_enter Try.func11, Try.ntmps11
  go_wp2_with fail
  refine bodyPost_ret (v := batV 7 (some ⟨w.heap.size + 1, 0, none⟩) 2 2) (by simp [results, Try.results11, go_sem, batV]) rfl ⟨⟨_, _, rfl, ?_⟩, Below.next_alloc ((Below.refl _ _).alloc (Nat.le_refl _) _) _⟩
  refine Or.inr ⟨w.heap.size + 1, 0, 2, rfl, by simp, fun i hi => ?_⟩
  match i, hi with
  | 0, _ => exact ⟨by rw [World.cell?_alloc_at _ _ _ _ (by simp)]; rfl, by rw [World.cell?_alloc_at _ _ _ _ (by simp)]; rfl, by rw [World.cell?_alloc_at _ _ _ _ (by simp)]; rfl⟩
  | 1, _ => exact ⟨by rw [World.cell?_alloc_at _ _ _ _ (by simp)]; rfl, by rw [World.cell?_alloc_at _ _ _ _ (by simp)]; rfl, by rw [World.cell?_alloc_at _ _ _ _ (by simp)]; rfl⟩

set_option maxHeartbeats 4000000 in
theorem awake_any (w : World) : Calls Try.prog 15 #[] w (Gives (.bool true) w) := by
  go_enter Try.func15, Try.ntmps15
  go_wp2_with fail
  refine (smallB_any _).mono ?_
  rintro e w1 ⟨⟨ao, cap, rfl, hs⟩, hb1⟩
  have HB1 := Lib.hid hb1
  have HE : Hid (∀ W, SeesO W (.slice ao 2 cap) smallOps → Calls Try.prog 9 #[.agg #[.int .u64 7, .slice ao 2 cap]] W (Told (Bt.encl 7 smallOps) 0 W)) := Lib.hid (fun W h => encode_yes 7 ao 2 cap smallOps W h (by omega) small_chk)
  rw [small_encl] at HE
  have HS := Lib.hid hs
  clear hs hb1
  unfold batV
  go_wp2_with fail
  refine (HE.out _ HS.out).mono ?_
  rintro e w2 ⟨rfl, hb2⟩
  have HB2 := Lib.hid (Below.next HB1.out hb2)
  clear hb2
  go_wp2_with fail
  refine (decode_any _ _ (by decide)).mono ?_
  rintro e w3 ⟨hb3, hcase⟩
  have e1 : Bt.decl (⟨#[7, 2, 0, 1, 97, 1, 120, 1, 1, 98]⟩ : ByteArray).data.toList = some (7, smallOps) := by
    have h := Bt.decl_encl small_chk
    rw [small_encl] at h
    exact h
  have HB3 := Lib.hid (Below.next HB2.out hb3)
  clear hb3
  rcases hcase with ⟨h, _⟩ | ⟨seq, os, a3, c3, h, rfl, hown⟩
  · exact absurd (e1.symm.trans h) (by simp)
  · obtain ⟨rfl, rfl⟩ : 7 = seq ∧ smallOps = os := by simpa using e1.symm.trans h
    have HO := Lib.hid hown.sees
    clear hown h e1
    have e2 : smallOps.length = 2 := rfl
    rw [e2] at HO ⊢
    unfold batV
    clear e2
    have HEN : Hid (∀ W, SeesO W (.slice a3 2 c3) smallOps → Calls Try.prog 14 #[.agg #[.int .u64 7, .slice a3 2 c3]] W fun e w' => (∃ v, e = .returned v ∧ OwnsE w' W.heap.size v (ents 7 smallOps 2)) ∧ Below W.heap.size W w') := Lib.hid (fun W h => entries_any 7 a3 2 c3 smallOps W h (by omega) (by omega) (by decide))
    have HLA : Hid (∀ W, Calls Try.prog 13 #[.agg #[.int .u64 7, .slice a3 2 c3]] W (Gives (.int .u64 8) W)) := Lib.hid (fun W => last_any 7 a3 2 c3 W (by omega) (by omega))
    go_wp2_with fail
    refine (HEN.out _ (HO.out.below ((Below.refl _ _).alloc (Nat.le_refl _) _))).mono ?_
    rintro e w4 ⟨⟨v, rfl, hown⟩, hb4⟩
    have HB4 := Lib.hid (Below.next (Below.next_alloc HB3.out _) hb4)
    obtain ⟨hc4, hf4⟩ := bcell hb4
    have hz4 : w3.heap.size < w4.heap.size := by have := hb4.size; simp at this; omega
    obtain ⟨ae, ce, rfl⟩ := hown.sees.slice
    have e5 : (ents 7 smallOps 2).length = 2 := rfl
    have HOE := Lib.hid hown.sees
    rw [e5] at HOE ⊢
    clear hown hb4 e5
    go_wp2_with fail
    refine (HLA.out _).mono ?_
    rintro e w5 ⟨rfl, hb5⟩
    have HB5 := Lib.hid (Below.next HB4.out hb5)
    obtain ⟨-, g, o, hce⟩ := (HOE.out.below hb5).get
    obtain ⟨rfl, hg0, k0, k1, k2, k3⟩ := hce 0 (by omega)
    obtain ⟨-, -, j0, j1, j2, j3⟩ := hce 1 (by omega)
    have q0 : (ents 7 smallOps 2).getD 0 end' = ⟨⟨#[97]⟩, ⟨#[120]⟩, 7, false⟩ := rfl
    have q1 : (ents 7 smallOps 2).getD 1 end' = ⟨⟨#[98]⟩, ⟨#[]⟩, 8, true⟩ := rfl
    rw [q0] at k0 k1 k2 k3
    rw [q1] at j0 j1 j2 j3
    clear hb5 hce q0 q1 hc4 hf4
    dsimp only at k0 k1 k2 k3 j0 j1 j2 j3
    rw [Nat.zero_mul, Nat.add_zero] at k0 k1 k2 k3
    rw [Nat.one_mul] at j0 j1 j2 j3
    go_wp2_with fail
    go_ret
    exact ⟨rfl, HB5.out⟩

/-- How many bytes operations have in all. -/
def sumO (ops : List Ob) : Nat := (ops.map fun o => o.key.size + o.val.size).sum
/-- Is a batch more than statements go through? -/
def greatO (ops : List Ob) : Bool := decide (60 < ops.length) || (ops.any fun o => decide (12000 < o.key.size) || decide (12000 < o.val.size)) || decide (12000 < sumO ops)
theorem sumO_snoc (ops : List Ob) (k : Nat) (h : k < ops.length) : sumO (ops.take (k + 1)) = sumO (ops.take k) + ((ops.getD k obd).key.size + (ops.getD k obd).val.size) := by
  have e : ops.getD k obd = ops[k] := by simp [h]
  unfold sumO
  rw [List.take_succ_eq_append_getElem h, List.map_append, List.sum_append, e]
  simp
theorem greatO_no {ops : List Ob} (h : greatO ops = false) : ops.length ≤ 60 ∧ (∀ o ∈ ops, o.key.size ≤ 12000 ∧ o.val.size ≤ 12000) ∧ sumO ops ≤ 12000 := by
  unfold greatO at h
  simp only [Bool.or_eq_false_iff, decide_eq_false_iff_not] at h
  obtain ⟨⟨h1, h2⟩, h3⟩ := h
  refine ⟨by omega, fun o ho => ?_, by omega⟩
  have := List.any_eq_false.1 h2 o ho
  simp only [Bool.or_eq_true, decide_eq_true_eq, not_or] at this
  omega

set_option maxHeartbeats 2000000 in
theorem great_any (seq : Nat) (ao : Option Addr) (len cap : Nat) (ops : List Ob) (w : World) (hS : SeesO w (.slice ao len cap) ops) :
    Calls Try.prog 16 #[batV seq ao len cap] w (Gives (.bool (greatO ops)) w) := by
  obtain ⟨hlen, b, off, hc⟩ := hS.get
  clear hS
  have HB : Hid (Below w.heap.size w (w.alloc (.cells #[Value.int IntKind.u64 ↑seq, Value.slice ao len cap] 27))) := Lib.hid ((Below.refl _ _).alloc (Nat.le_refl _) _)
  by_cases h60 : 60 < len
  · have HE : Hid (greatO ops = true) := by unfold greatO; rw [hlen]; exact Lib.hid (by simp [h60])
    clear hc hlen
    unfold batV
    go_enter Try.func16, Try.ntmps16
    go_wp2_with fail
    go_ret
    rw [HE.out]
    exact ⟨rfl, HB.out⟩
  · have HE : Hid (greatO ops = (ops.any (fun o => decide (12000 < o.key.size) || decide (12000 < o.val.size)) || decide (12000 < sumO (ops.take len)))) := by
      refine Lib.hid ?_
      unfold greatO
      rw [← hlen, List.take_length]
      simp [hlen, h60]
    have HC := Lib.hid hc; have HLEN := Lib.hid hlen
    clear hc hlen
    unfold batV
    go_enter Try.func16, Try.ntmps16
    go_wp2_with fail
    have hd : (w.alloc (.cells #[Value.int IntKind.u64 ↑seq, Value.slice ao len cap] 27)).cell? ⟨w.heap.size, 1, none⟩ = some (.slice ao len cap) := by rw [World.cell?_alloc_new]; rfl
    have hsz0 : w.heap.size < (w.alloc (.cells #[Value.int IntKind.u64 ↑seq, Value.slice ao len cap] 27)).heap.size := by simp
    generalize w.alloc (.cells #[Value.int IntKind.u64 ↑seq, Value.slice ao len cap] 27) = W at *
    go_loopw [3, 4] (fun n i wr => ∃ k : Nat, k ≤ len ∧ i = .int .i64 k ∧ n = .int .i64 (sumO (ops.take k)) ∧ (sumO (ops.take k) : Int) ≤ 24000 * k ∧ (∀ j, j < k → (decide (12000 < (ops.getD j obd).key.size) || decide (12000 < (ops.getD j obd).val.size)) = false) ∧ wr.cell? ⟨w.heap.size, 1, none⟩ = some (.slice ao len cap) ∧ Below w.heap.size w wr) (fun _ i _ => len - (intOf i).toNat)
    case atStart => exact ⟨0, Nat.zero_le _, rfl, rfl, by simp [sumO], fun j hj => by omega, hd, HB.out⟩
    case round =>
      obtain ⟨k, hk, rfl, rfl, hsum, hno, hq, hbel⟩ := hrel
      clear hd
      have HNO := Lib.hid hno; clear hno
      have hsz := hbel.size
      by_cases hlt : k < len
      · obtain ⟨rfl, hbl, hob⟩ := HC.out k hlt
        obtain ⟨c0, c1, c2⟩ := hob.below hbel hbl
        have hbr : b < wr.heap.size := by omega
        have hkl : k < ops.length := by rw [HLEN.out]; exact hlt
        have HSN : Hid (sumO (ops.take (k + 1)) = sumO (ops.take k) + ((ops.getD k obd).key.size + (ops.getD k obd).val.size)) := Lib.hid (sumO_snoc ops k hkl)
        have HAY : Hid ((decide (12000 < (ops.getD k obd).key.size) || decide (12000 < (ops.getD k obd).val.size)) = true → greatO ops = true) := Lib.hid (fun h => by
          rw [HE.out, any_yes (f := fun o => decide (12000 < o.key.size) || decide (12000 < o.val.size)) hkl h]; rfl)
        have HAN : Hid ((decide (12000 < (ops.getD k obd).key.size) || decide (12000 < (ops.getD k obd).val.size)) = false → ∀ j, j < k + 1 → (decide (12000 < (ops.getD j obd).key.size) || decide (12000 < (ops.getD j obd).val.size)) = false) := Lib.hid (fun h j hj => by
          by_cases e : j = k
          · rw [e]; exact h
          · exact HNO.out j (by omega))
        clear hob hkl
        generalize ops.getD k obd = x at *
        obtain ⟨key, val, gone⟩ := x
        dsimp only at c0 c1 c2 HSN HAY HAN
        generalize hT : sumO (ops.take k) = T at *
        clear hT
        by_cases h1 : 12000 < key.size
        · have HG : Hid (greatO ops = true) := Lib.hid (HAY.out (by simp [h1]))
          go_wp2_with fail
          go_ret
          rw [HG.out]
          exact ⟨rfl, hbel⟩
        · by_cases h2 : 12000 < val.size
          · have HG : Hid (greatO ops = true) := Lib.hid (HAY.out (by simp [h2]))
            go_wp2_with fail
            go_ret
            rw [HG.out]
            exact ⟨rfl, hbel⟩
          · have HG := Lib.hid (HAN.out (by simp; omega))
            clear HAY HAN
            go_wp2_with fail
            go_quiet (fail)
            go_wp2_with fail
            refine ⟨⟨k + 1, by omega, by go_num, by rw [HSN.out]; congr 1; omega, by rw [HSN.out]; omega, HG.out, hq, ⟨hbel.os, hbel.tape, hbel.output, hbel.size, hbel.block⟩⟩, by simp [intOf]; omega⟩
      · obtain rfl : k = len := by omega
        have HG : Hid (greatO ops = decide (12000 < sumO (ops.take k))) := by
          rw [HE.out, any_no (f := fun o => decide (12000 < o.key.size) || decide (12000 < o.val.size)) (fun j hj => HNO.out j (by rw [HLEN.out] at hj; omega))]; exact Lib.hid (by simp)
        generalize hT : sumO (ops.take k) = T at *
        clear hT HE
        by_cases hT2 : 12000 < T
        · go_wp2_with fail
          go_ret
          rw [HG.out]
          exact ⟨by simp [hT2]; omega, hbel⟩
        · go_wp2_with fail
          go_ret
          rw [HG.out]
          exact ⟨by simp [hT2]; omega, hbel⟩

end Go.Proofs.Ytohfjibhfbcanaa
