/- The document's own Hash and Probes. -/
import Derived.Test.YtnlfajikciijjaaBlC
import Derived.Test.YtnlfajikciijjaaOwnsT
import Derived.Maps.AppendAt
namespace Go.Proofs.Ytnlfajikciijjaa
open Go.RowKit

set_option maxHeartbeats 400000 in
theorem refHash_any (s : ByteArray) (w : World) (hs : s.size ≤ 9223372036854775807) :
    Calls Try.prog 14 #[.string s] w fun e w' => e = .returned (.int .u64 (Bl.hash s.data.toList)) ∧ w = w' := by
  go_enter Try.func14, Try.ntmps14
  go_wp2
  go_loop [3, 4] (fun n i => ∃ k q : Nat, k ≤ s.size ∧ i = .int .i64 k ∧ Hid (q < 18446744073709551616) ∧ n = .int .u64 q ∧ Hid (q = Bl.hash (s.data.toList.take k))) (fun _ i => s.size - (intOf i).toNat)
  case atStart => exact ⟨0, _, Nat.zero_le _, rfl, Bl.hash_lt [], rfl, rfl⟩
  case round =>
    obtain ⟨k, q, hk, rfl, hq, rfl, HQ⟩ := hrel
    by_cases hlt : k < s.size
    · obtain ⟨B, hB⟩ : ∃ B : Nat, B = s[k].toNat := ⟨_, rfl⟩
      have hx := index_byte s k hlt
      rw [← hB] at hx
      have HU : Hid (Bl.hash (s.data.toList.take (k + 1)) = Bl.stp (Bl.hash (s.data.toList.take k)) B) := by rw [take_snoc s k hlt]; unfold Bl.hash; rw [Bl.hs_snoc, hB]; exact Lib.hid rfl
      have hB2 : B < 256 := by rw [hB]; exact s[k].toNat_lt
      clear hB
      obtain ⟨q1, h1⟩ : ∃ q1, q1 = Bl.stp q B := ⟨_, rfl⟩
      have e1 := stp_walk hq.out hB2
      rw [← h1] at e1
      have HF : Hid (q1 = Bl.hash (s.data.toList.take (k + 1))) := by rw [HU.out, ← HQ.out, h1]; exact Lib.hid rfl
      have HL : Hid (q1 < 18446744073709551616) := by rw [h1]; exact Lib.hid (Bl.stp_lt _ _)
      clear h1
      go_wp2
      go_round
      case rel => exact ⟨k + 1, q1, by omega, by go_num, HL.out, rfl, HF.out⟩
      case measure => simp [intOf]; omega
    · have HE : Hid (q = Bl.hash s.data.toList) := by
        have := HQ.out
        rw [List.take_of_length_le (by rw [list_size]; omega)] at this
        exact Lib.hid this
      go_wp2
      go_ret
      rw [HE.out]
      exact ⟨rfl, rfl⟩

theorem info_int : (Try.prog.info? 3).map (fun i => (i.zero, i.size, i.bytes)) = some (some (.int .i64 0), 1, 8) := by kernel_rfl
/-- A slice of numbers that is the call's own, from a block on. -/
def OwnsI (w : World) (base : Nat) (v : Value) (ns : List Nat) : Prop := w.ownsRow base 3 1 v ns.length (ns.map fun (n : Nat) => Value.int .i64 (n : Int))
theorem OwnsI.nil (w : World) (base : Nat) : OwnsI w base (.slice none 0 0) [] := World.ownsRow_nil ..
theorem OwnsI.snoc {w' : World} {base : Nat} {v' : Value} {ns : List Nat} {n : Nat} (h : w'.ownsRow base 3 1 v' (ns.length + 1) ((ns.map fun (n : Nat) => Value.int .i64 (n : Int)) ++ [.int .i64 (n : Int)])) : OwnsI w' base v' (ns ++ [n]) := by
  unfold OwnsI
  rw [List.length_append, List.map_append]
  exact h
theorem add_none (g j : Nat) : (⟨g, 0, none⟩ : Addr).add j = ⟨g, j, none⟩ := by unfold Addr.add; split <;> simp_all
/-- Six numbers lie in memory. -/
theorem OwnsI.six {w : World} {base : Nat} {v : Value} {ns : List Nat} (h : OwnsI w base v ns) (hl : ns.length = 6) : ∃ g cap, v = .slice (some ⟨g, 0, none⟩) 6 cap ∧ base ≤ g ∧ g < w.heap.size ∧ ∀ j, j < 6 → w.cell? ⟨g, j, none⟩ = some (.int .i64 (ns.getD j 0 : Nat)) := by
  have h' : w.ownsRow base 3 1 v ns.length (ns.map fun (n : Nat) => Value.int .i64 (n : Int)) := h
  rcases h'.2 with ⟨rfl, h0⟩ | ⟨g, cap, cur, rfl, hb, hg, _⟩
  · omega
  · refine ⟨g, cap, by rw [hl], hb, heap_lt hg, fun j hj => ?_⟩
    have := h'.cells (g := g) rfl j (.int .i64 (ns.getD j 0 : Nat)) (by
      rw [List.getElem?_map, List.getElem?_eq_getElem (by omega)]
      simp [show j < ns.length by omega])
    rwa [add_none] at this

/-- The first k probes of a hash. -/
def prl (h m k : Nat) : List Nat := (List.range k).map (Bl.pr h m)
theorem prl_snoc (h m k : Nat) : prl h m (k + 1) = prl h m k ++ [Bl.pr h m k] := by simp [prl, List.range_succ]
theorem prl_length (h m k : Nat) : (prl h m k).length = k := by simp [prl]
theorem prl_get {h m k i : Nat} (hi : i < k) : (prl h m k).getD i 0 = Bl.pr h m i := by simp [prl, hi]
/-- What Probes tells. -/
def GrewI (ns : List Nat) (w : World) (e : Ending) (w' : World) : Prop := ∃ v, e = .returned v ∧ OwnsI w' w.heap.size v ns ∧ Below w.heap.size w w'

set_option maxHeartbeats 2000000 in
theorem refProbes_any (s : ByteArray) (m : Nat) (w : World) (hs : s.size ≤ 9223372036854775807) (h0 : 0 < m) (hn : m ≤ 8000000000) :
    Calls Try.prog 20 #[.string s, .int .u64 m] w (GrewI (prl (Bl.hash s.data.toList) m 6) w) := by
  have HH := Lib.hid (Bl.hash_lt s.data.toList)
  generalize hh : Bl.hash s.data.toList = h at *
  have HHH := Lib.hid hh; clear hh
  obtain ⟨i0, hi, hz0, hz1, hz2⟩ := info_parts info_int
  obtain ⟨A, HA, hA1, ha⟩ : ∃ A : Nat, Hid (A = Bl.at0 h) ∧ A < 4294967296 ∧ (h : Int) % 4294967296 = (A : Int) := ⟨h % 4294967296, Lib.hid rfl, Nat.mod_lt _ (by decide), by omega⟩
  obtain ⟨Q, HQ, hQ1, hq⟩ : ∃ Q : Nat, Hid (Q = h / 4294967296) ∧ Q < 4294967296 ∧ (h : Int) / 4294967296 = (Q : Int) := ⟨h / 4294967296, Lib.hid rfl, by have := HH.out; omega, by omega⟩
  have HST := Bl.strd_odd h
  rw [← HQ.out] at HST
  have HS2 := Lib.hid HST; clear HST
  by_cases hev : Q % 2 = 0
  all_goals
    first
      | (have hev2 : (Q : Int) % 2 = 0 := by omega
         obtain ⟨ST, hst⟩ : ∃ ST : Nat, (Q : Int) + 1 = (ST : Int) := ⟨Q + 1, rfl⟩
         have HX : Hid (ST = Bl.strd h) := Lib.hid (by rw [HS2.out, if_pos hev]; omega)
         have hs1 : ST ≤ 4294967296 := by omega)
      | (have hev2 : ((Q : Int) % 2 == 0) = false := by rw [beq_eq_false_iff_ne]; omega
         have HX0 : Hid (Q = Bl.strd h) := Lib.hid (by rw [HS2.out, if_neg hev])
         obtain ⟨ST, hst⟩ : ∃ ST : Nat, ST = Q := ⟨Q, rfl⟩
         subst hst
         have HX : Hid (ST = Bl.strd h) := HX0
         have hs1 : ST ≤ 4294967296 := by omega)
    clear hev HS2
    go_enter Try.func20, Try.ntmps20
    go_wp2_with fail
    refine (refHash_any _ _ hs).mono ?_
    rintro e w' ⟨rfl, rfl⟩
    rw [HHH.out]
    go_wp2_with fail
    first
      | (rw [ha, hev2]; clear ha hev2)
      | (rw [ha]; clear ha)
    go_loopw [8, 9] (fun v i wr => ∃ k : Nat, k ≤ 6 ∧ i = .int .u64 k ∧ Hid (OwnsI wr w.heap.size v (prl h m k)) ∧ Hid (Below w.heap.size w wr)) (fun _ i _ => 6 - (intOf i).toNat)
    case atStart => exact ⟨0, by omega, rfl, OwnsI.nil _ _, Below.refl _ _⟩
    case round =>
      obtain ⟨k, hk, rfl, HO, HB⟩ := hrel
      by_cases hlt : k < 6
      · have hp1 : (k : Int) * (ST : Int) ≤ 6 * 4294967296 := by
          have : k * ST ≤ 6 * 4294967296 := Nat.mul_le_mul hk hs1
          rw [← Int.natCast_mul]; omega
        have hp0 : (0 : Int) ≤ (k : Int) * (ST : Int) := by rw [← Int.natCast_mul]; omega
        obtain ⟨P, hP, hPm, HP⟩ : ∃ P : Nat, ((A : Int) + (k : Int) * (ST : Int)) % 4294967296 % (m : Int) = (P : Int) ∧ P < m ∧ Hid (P = Bl.pr h m k) := by
          refine ⟨Bl.pr h m k, ?_, Bl.pr_lt h m k h0, Lib.hid rfl⟩
          unfold Bl.pr
          rw [← HX.out, ← HA.out, Int.natCast_emod, Int.natCast_emod, Int.natCast_add, Int.natCast_mul]
          as_aux_lemma => rfl
        have hraw : wr.ownsRow w.heap.size 3 1 u8 (prl h m k).length ((prl h m k).map fun (n : Nat) => Value.int .i64 (n : Int)) := HO.out
        have HPL := Lib.hid (prl_length h m k)
        have hsz := HB.out.size
        go_wp2_with (at_builtin; go_must (refine wpList_append_own _ rfl _ _ 38 rfl w.heap.size 3 i0 (.int .i64 0) 1 8 Try.underlying38 hi hz0 hz1 hz2 rfl (by decide) _ _ _ rfl (hraw.alloc _) ⟨wr.heap.size, 0, none⟩ 1 1 [_] rfl rfl (cell_one_new _ _ _) ?c2 ?c3 ?c4 ?c5 ?_))
        case c2 => intro u hu; simp at hu; subst hu; rfl
        case c3 => rw [HPL.out]; unfold maxLen; omega
        case c4 => rw [HPL.out]; omega
        case c5 => simp; omega
        intro v' w1 hown' hgrow _
        have HW : Hid (OwnsI w1 w.heap.size v' (prl h m (k + 1)) ∧ Below w.heap.size w w1) := Lib.hid (by
          refine ⟨?_, ((HB.out.alloc (by omega) _)).grown hgrow (by simp; omega) (fun q hq => (hraw.lt q hq).1)⟩
          rw [prl_snoc, ← HP.out]
          exact OwnsI.snoc hown')
        clear hown' hgrow hraw HB HO
        go_wp2_with fail
        go_roundw
        case rel => exact ⟨k + 1, by omega, by go_num, HW.out.1, HW.out.2⟩
        case measure => simp [intOf]; omega
      · obtain rfl : k = 6 := by omega
        go_wp2_with fail
        go_ret
        exact ⟨_, rfl, HO.out, HB.out⟩

end Go.Proofs.Ytnlfajikciijjaa
