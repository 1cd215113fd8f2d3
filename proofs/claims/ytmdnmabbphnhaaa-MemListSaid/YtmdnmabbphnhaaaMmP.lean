/- The walk of mem.Place. -/
import Derived.Test.YtmdnmabbphnhaaaMmApp
import Derived.Test.YtmdnmabbphnhaaaMmMath
namespace Go.Proofs.Ytmdnmabbphnhaaa.Mm
open Go Go.RowKit Go.Proofs.Ytmdnmabbphnhaaa.Bn
set_option linter.unusedVariables false

theorem esc_bn (l : List UInt8) : Bn.esc l = Mm.esc l := rfl
theorem key_text (K : ByteArray) : keyl [⟨true, K, 0⟩] = 2 :: (Mm.esc K.data.toList ++ [0, 1]) := by
  unfold keyl ptl
  simp
  rfl
/-- The bytes of a number that are behind the first ones. -/
def upto (n j : Nat) : List UInt8 := Bn.Nm.big (n / 256 ^ (8 - j)) j
theorem upto_full (n : Nat) : upto n 8 = Bn.Nm.big n 8 := by unfold upto; simp
theorem upto_snoc (n : Nat) {j : Nat} (hj : j < 8) : upto n (j + 1) = upto n j ++ [UInt8.ofNat (n / 256 ^ (7 - j))] := by
  unfold upto
  rw [Bn.Nm.big, show 8 - (j + 1) = 7 - j by omega, Nat.div_div_eq_div_mul, ← Nat.pow_succ, show (7 - j).succ = 8 - j by omega]

theorem bytes_bu {w w2 : World} (hb : Below w.heap.size w w2) (T : List UInt8) (hT : T.length ≤ 1000000000) :
    ∃ v w3, (convert 9 82 (.string ⟨T.toArray⟩)).run Try.prog w2 = .ok v w3 ∧ Bu w3 w.heap.size v T ∧ Below w.heap.size w w3 := by
  have h := run_bytes_of_string (P := Try.prog) w2 9 82 5 ⟨T.toArray⟩ Try.underlying9 Try.underlying82 Try.underlying5
  have hs : (⟨T.toArray⟩ : ByteArray).size = T.length := by unfold ByteArray.size; simp
  refine ⟨_, _, h, ?_, ?_⟩
  · have := bu_new w2.drew w.heap.size ⟨T.toArray⟩ (grownCap w2 (⟨T.toArray⟩ : ByteArray).size 0 5) (by rw [heap_drew]; exact hb.size) (grownCap_ge _ _ _ _) (grownCap_le_maxLen _ _ _ _ (by rw [hs]; unfold maxLen; omega))
    rw [heap_drew] at this
    exact this
  · exact (hb.trans (b := w2) ⟨rfl, rfl, rfl, Nat.le_refl _, fun _ _ => rfl⟩ : Below w.heap.size w w2.drew).alloc (by rw [heap_drew]; exact hb.size) _
theorem seesP_one {w : World} {B : Nat} {K : ByteArray} (h : w.heap[B]? = some (.cells #[.bool true, .string K, .int .u64 0] 85 (0, 0))) : SeesP w (.slice (some ⟨B, 0, none⟩) 1 1) [⟨true, K, 0⟩] := by
  have h0 : w.cell? ⟨B, 0, none⟩ = some (.bool true) := by rw [cell_of_row w B 0 _ _ _ h]; rfl
  have h1 : w.cell? ⟨B, 1, none⟩ = some (.string K) := by rw [cell_of_row w B 1 _ _ _ h]; rfl
  have h2 : w.cell? ⟨B, 2, none⟩ = some (.int .u64 0) := by rw [cell_of_row w B 2 _ _ _ h]; rfl
  refine Or.inr ⟨B, 0, 1, rfl, World.block_lt_of_cell? w _ h0, fun i hi => ?_⟩
  match i, hi with
  | 0, _ => exact ⟨h0, h1, h2⟩
set_option maxHeartbeats 4000000 in
set_option maxRecDepth 100000 in
theorem place_any (K : ByteArray) (q : Nat) (w : World) (hK : K.size ≤ 1000000) (hq : q < 18446744073709551616) :
    Calls Try.prog 23 #[.string K, .int .u64 (q : Int)] w fun e w' => e = .returned (.string ⟨(place K.data.toList q).toArray⟩) ∧ Below w.heap.size w w' := by
  have HST := Lib.hid (fun W => str_any K W (by omega))
  have HKEY := Lib.hid (fun (W : World) ao len cap (h : SeesP W (.slice ao len cap) [⟨true, K, 0⟩]) (hl : len ≤ 1000000) => key_any ao len cap [⟨true, K, 0⟩] W h hl (by simp [sizl]; omega) (fun i => by
    cases i with
    | zero => simp
    | succ i => simp [pd]))
  rw [key_text] at HKEY
  have HPL : Hid (place K.data.toList q = (2 :: (Mm.esc K.data.toList ++ [0, 1])) ++ Bn.Nm.big (18446744073709551615 - q) 8) := Lib.hid rfl
  have HSZ : Hid ((2 :: (Mm.esc K.data.toList ++ [0, 1])).length ≤ 2000003) := Lib.hid (by
    have h1 := Mm.esc_length K.data.toList
    have h2 : K.data.toList.length = K.size := by rw [Array.length_toList]; rfl
    simp only [List.length_cons, List.length_append, List.length_nil]
    omega)
  rw [HPL.out]
  generalize hT : (2 :: (Mm.esc K.data.toList ++ [0, 1]) : List UInt8) = T at *
  have hleft : ∃ c : Nat, (c : Int) = 18446744073709551615 - (q : Int) ∧ 18446744073709551615 - q = c := ⟨18446744073709551615 - q, by omega, rfl⟩
  obtain ⟨c, hc, hc2⟩ := hleft
  rw [hc2]
  clear hT HPL hc2
  have hcw : IntKind.u64.wrap (18446744073709551615 - (q : Int)) = c := by rw [← hc]; show (c : Int) % 18446744073709551616 = c; omega
  go_enter Try.func23, Try.ntmps23
  go_wp2_with fail
  refine (HST.out _).mono ?_
  rintro e w1 ⟨rfl, hb1⟩
  have HB1 := Lib.hid hb1
  clear hb1
  simp only [partV]
  go_wp2_with fail
  refine (HKEY.out _ _ _ _ (seesP_one (heap_alloc_new w1 _)) (by omega)).mono ?_
  rintro e w2 ⟨rfl, hb2⟩
  have HB2 := Lib.hid (Bn.Below.next (Bn.Below.next_alloc HB1.out (.cells #[.bool true, .string K, .int .u64 0] 85)) hb2)
  clear hb2
  obtain ⟨v3, w3, hcv, hbu, hb3⟩ := bytes_bu HB2.out T (by have := HSZ.out; omega)
  have HBU := Lib.hid hbu; have HB3 := Lib.hid hb3
  clear hbu hb3 hcw
  go_wp2_with fail
  rw [← hc]
  clear hc hcv
  go_loopw [5, 7] (fun u i wr => ∃ (t : Nat) (x : Int), t ≤ 8 ∧ i = .int .i64 x ∧ x = 8 * (t : Int) - 8 ∧ Hid (Bu wr w.heap.size u (T ++ upto c (8 - t))) ∧ Hid (Below w.heap.size w wr)) (fun _ i _ => (intOf i + 8).toNat)
  case atStart => exact ⟨8, 56, Nat.le_refl _, rfl, rfl, by simpa [upto, Bn.Nm.big] using HBU, HB3⟩
  case round =>
    clear HBU HB3
    obtain ⟨t, x, ht, rfl, hx, HBU, HB⟩ := hrel
    by_cases h0 : t = 0
    · subst h0
      obtain rfl : x = -8 := by omega
      clear hx ht
      rw [Nat.sub_zero, upto_full] at HBU
      have hcv := HBU.out.convert
      go_wp2_with fail
      go_ret
      exact ⟨rfl, HB.out⟩
    · obtain ⟨t, rfl⟩ : ∃ k, t = k + 1 := ⟨t - 1, by omega⟩
      obtain rfl : x = ((8 * t : Nat) : Int) := by omega
      clear hx h0
      have hb8 : ((8 * t : Nat) : Int) ≤ 56 := by omega
      have HU : Hid (upto c (8 - t) = upto c (8 - (t + 1)) ++ [UInt8.ofNat (c / 256 ^ t)]) := Lib.hid (by
        have h1 := upto_snoc c (j := 8 - (t + 1)) (by omega)
        rw [show 8 - (t + 1) + 1 = 8 - t by omega, show 7 - (8 - (t + 1)) = t by omega] at h1
        exact h1)
      have HLN : Hid ((T ++ upto c (8 - (t + 1))).length ≤ 1000000000) := Lib.hid (by
        have := HSZ.out
        unfold upto
        rw [List.length_append, Bn.Nm.big_length]
        omega)
      have HA : Hid (T ++ upto c (8 - t) = T ++ upto c (8 - (t + 1)) ++ [UInt8.ofNat (c / 256 ^ t)]) := Lib.hid (by rw [HU.out, List.append_assoc])
      generalize T ++ upto c (8 - (t + 1)) = l at *
      have hsz := HB.out.size
      go_wp2_with (at_builtin; go_must (refine wpList_append_bu rfl _ _ rfl w.heap.size _ l rfl (HBU.out.below (Below.alloc (Below.refl _ wr) (Nat.le_refl _) _)) (UInt8.ofNat (c / 256 ^ t)) wr.heap.size 1 rfl ?c1 ?c2 ?c3 ?_))
      case c1 => rw [← cell_shr, cell_of_row _ _ 0 _ _ _ (heap_alloc_new wr _)]; rfl
      case c2 => have := HLN.out; omega
      case c3 => simp; omega
      intro v4 w4 hbu4 hgrow4
      have R : Bu w4 w.heap.size v4 (T ++ upto c (8 - t)) ∧ Below w.heap.size w w4 := by
        rw [HA.out]
        exact ⟨hbu4, (HB.out.alloc hsz _).grown hgrow4 (by simp; omega) (fun k hk => (HBU.out.lt k hk).1)⟩
      clear hbu4 hgrow4
      go_wp2_with fail
      go_roundw
      case rel => exact ⟨t, _, by omega, rfl, by omega, Lib.hid R.1, Lib.hid R.2⟩
      case measure => simp [intOf]; omega
end Go.Proofs.Ytmdnmabbphnhaaa.Mm
