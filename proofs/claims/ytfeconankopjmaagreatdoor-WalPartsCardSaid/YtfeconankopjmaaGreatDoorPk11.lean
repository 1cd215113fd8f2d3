/- Texts on the program's own functions, several in one: NnR. -/
import Derived.Test.YtfeconankopjmaaGreatDoorPk6
import Derived.Test.YtfeconankopjmaaGreatDoorPk9

/- Walks of the document's Name and Number of layer 5. -/
namespace Go.Proofs.YtfeconankopjmaaGreatDoor
open Go.RowKit

/-- 'string([]byte of one byte)'. -/
theorem convert_one (W : World) (c : Int) (b : UInt8) (h : c = b.toNat) :
    (convert 128 9 (.slice (some ⟨W.heap.size, 0, none⟩) 1 1)).run Tryz.prog (W.alloc (.cells #[.int .u8 c] 5)) = .ok (.string ⟨#[b]⟩) (W.alloc (.cells #[.int .u8 c] 5)) := by
  subst h
  refine run_convert_bytes_back (l := [b]) _ _ _ _ _ _ Tryz.underlying128 Tryz.underlying5 Tryz.underlying9 ?_
  intro j hj
  match j, hj with
  | 0, _ => simp [Addr.add]
theorem mk_cons (b : UInt8) (S : ByteArray) (l : List UInt8) (h : S.data.toList = l) : ((⟨#[b]⟩ : ByteArray) ++ S).data.toList = b :: l := by
  subst h
  rw [ByteArray.data_append]
  simp
def lenOf : Value → Nat
  | .string s => s.size
  | _ => 0

set_option maxRecDepth 100000 in
set_option maxHeartbeats 800000 in
theorem nameR_any (s : ByteArray) (N : Nat) (w : World) (hs : s.size ≤ 1000) (hN : N < 18446744073709551616) :
    Calls Tryz.prog 104 #[.string s, .int .u64 N] w (Gives (.string ⟨(Nn.name s.data.toList N).toArray⟩) w) := by
  have HN := Lib.hid hN; clear hN
  have hmax : max 8 (Lib.nDigits N) ≤ 20 := by
    have := Nn.digs_length HN.out
    rw [Nn.digs, Nn.low_length] at this
    exact this.2
  obtain ⟨mx, hmx⟩ : ∃ mx, mx = max 8 (Lib.nDigits N) := ⟨_, rfl⟩
  rw [← hmx] at hmax
  have HM := Lib.hid hmx
  clear hmx
  go_enter Tryz.func104, Tryz.ntmps104
  go_wp2_with fail
  go_loopw [1, 5] (fun n u wr => ∃ (j m : Nat) (S : ByteArray), n = .int .u64 m ∧ u = .string S ∧ Hid (m = N / 10 ^ j) ∧ Hid (S.data.toList = Nn.low N j) ∧ S.size = j ∧ j ≤ mx ∧ Hid (Below w.heap.size w wr)) (fun n u _ => (intOf n).toNat + (8 - lenOf u))
  case atStart => exact ⟨0, N, _, rfl, rfl, Lib.hid (by simp), Lib.hid rfl, rfl, Nat.zero_le _, Lib.hid (Below.refl _ _)⟩
  case round =>
    obtain ⟨j, m, S, rfl, rfl, Hm, HS, hSz, hj, HB⟩ := hrel
    have HD : Hid (m < 18446744073709551616) := Lib.hid (by rw [Hm.out]; exact Nat.lt_of_le_of_lt (Nat.div_le_self _ _) HN.out)
    have HZ := Lib.hid hSz
    clear hSz
    have hadd : ¬ 9223372036854775807 < 1 + S.size := by have := HZ.out; omega
    have HV : Hid (m / 10 = N / 10 ^ (j + 1)) := Lib.hid (by rw [Hm.out, Nat.div_div_eq_div_mul, Nat.pow_succ])
    have HT : Hid (((⟨#[Lib.dg N j]⟩ : ByteArray) ++ S).data.toList = Nn.low N (j + 1)) := Lib.hid (mk_cons _ _ _ HS.out)
    have HY : Hid (((⟨#[Lib.dg N j]⟩ : ByteArray) ++ S).size = j + 1) := Lib.hid (by rw [ByteArray.size_append, HZ.out]; show 1 + j = j + 1; omega)
    by_cases h0 : m = 0
    · subst h0
      by_cases h8 : (S.size : Int) < 8
      · have hlt : Hid (j + 1 ≤ mx) := Lib.hid (by have := HM.out; have := HZ.out; omega)
        have hc := fun W : World => convert_one W 48 (Lib.dg N j) (by rw [Nn.dg_nat, ← Hm.out]; rfl)
        clear hj hmax
        go_wp2_with fail
        go_roundw
        case rel => exact ⟨j + 1, 0, _, rfl, rfl, Lib.hid (by have := HV.out; omega), HT, HY.out, hlt.out, Lib.hid (HB.out.alloc HB.out.size _)⟩
        case measure => simp only [intOf, lenOf]; have := HY.out; have := HZ.out; omega
      · have HJ : Hid (j = mx) := Lib.hid (by
          have h1 := HM.out
          have h2 := HZ.out
          have h3 : N < 10 ^ j := by
            rcases Nat.lt_or_ge N (10 ^ j) with h | h
            · exact h
            · have := (Nat.one_le_div_iff (Nat.pow_pos (n := j) (show 0 < 10 by omega))).2 h
              have h2 := Hm.out
              omega
          obtain ⟨k, rfl⟩ : ∃ k, j = k + 1 := ⟨j - 1, by omega⟩
          have := Nn.nDigits_le k N h3
          omega)
        have hs2 : ¬ 9223372036854775807 < s.size + 1 := by omega
        have hs3 : ¬ 9223372036854775807 < s.size + 1 + S.size := by have := HZ.out; omega
        clear hj hmax
        go_wp2_with fail
        go_ret
        refine ⟨?_, HB.out⟩
        refine congrArg (fun x => Ending.returned (Value.string x)) ?_
        apply ByteArray.ext; apply Array.toList_inj.1
        rw [ByteArray.data_append, ByteArray.data_append, Array.toList_append, Array.toList_append, HS.out, HJ.out, HM.out]
        simp [Nn.name, Nn.digs]
    · have hc := fun W : World => convert_one W (48 + (m : Int) % 10) (Lib.dg N j) (by
        rw [Nn.dg_nat, ← Hm.out]; omega)
      have hpos : 0 < m := by omega
      have HD : Hid (IntKind.u64.wrap ((m : Int) / 10) = ((m / 10 : Nat) : Int)) := Lib.hid (by
        have h1 : m ≤ N := by rw [Hm.out]; exact Nat.div_le_self _ _
        have h2 := HN.out
        show IntKind.u64.wrap ((m : Int) / 10) = ((m / 10 : Nat) : Int)
        rw [IntKind.wrap_u64]; omega)
      have hlt : Hid (j + 1 ≤ mx) := Lib.hid (by
        have h1 := HM.out
        rcases Nat.lt_or_ge j (Lib.nDigits N) with h | h
        · omega
        · have h2 := Lib.lt_pow_nDigits N
          have h3 := Nat.pow_le_pow_right (show 0 < 10 by omega) h
          have h4 := Hm.out
          rw [Nat.div_eq_of_lt (Nat.lt_of_lt_of_le h2 h3)] at h4
          omega)
      clear h0 hj hmax
      go_wp2_with fail
      go_roundw
      case rel =>
        refine ⟨j + 1, m / 10, _, ?_, rfl, HV, HT, HY.out, hlt.out, Lib.hid (HB.out.alloc HB.out.size _)⟩
        rw [HD.out]
      case measure => simp only [intOf, lenOf]; rw [HD.out]; have := HY.out; have := HZ.out; omega

def numV (o : Option Nat) : Value := match o with
  | some n => .tuple #[.int .u64 n, .bool true]
  | none => .tuple #[.int .u64 (0 : Nat), .bool false]

set_option maxRecDepth 100000 in
set_option maxHeartbeats 800000 in
theorem numberR_mid (wd s : ByteArray) (w : World) (hw : wd.size ≤ 1000) (hs : s.size ≤ 1000) (h1 : wd.size + 9 ≤ s.size) (h2 : s.size ≤ wd.size + 21) :
    Calls Tryz.prog 68 #[.string wd, .string s] w (Gives (numV (Nn.numR wd.data.toList s.data.toList)) w) := by
  have g1 : ¬ (s.size : Int) < wd.size + 9 := by omega
  have g2 : ¬ (wd.size : Int) + 21 < s.size := by omega
  go_enter Tryz.func68, Tryz.ntmps68
  go_wp2_with fail
  go_loopw [6, 7] (fun n i wr => ∃ (k q : Nat), i = .int .i64 k ∧ n = .int .u64 q ∧ wd.size + 1 ≤ k ∧ k ≤ s.size ∧ Hid (q < 18446744073709551616) ∧ Hid (Nn.rdv 0 (s.data.toList.drop (wd.size + 1)) = Nn.rdv q (s.data.toList.drop k)) ∧ Hid (Below w.heap.size w wr)) (fun _ i _ => s.size - (intOf i).toNat)
  case atStart => exact ⟨wd.size + 1, 0, by go_num, rfl, Nat.le_refl _, by omega, Lib.hid (by omega), Lib.hid rfl, Lib.hid (Below.refl _ _)⟩
  case round =>
    obtain ⟨k, q, rfl, rfl, hk0, hk, HQ, HR, HB⟩ := hrel
    by_cases hlt : k < s.size
    · obtain ⟨b, hb⟩ : ∃ b : Nat, b = s[k].toNat := ⟨_, rfl⟩
      have hi := index_byte s k hlt
      rw [← hb] at hi
      have hb256 : b < 256 := by rw [hb]; exact UInt8.toNat_lt _
      have hdr : s.data.toList.drop k = s[k] :: s.data.toList.drop (k + 1) := by
        rw [List.drop_eq_getElem_cons (by simpa using hlt)]
        rfl
      have HR1 : Hid (Nn.rdv 0 (s.data.toList.drop (wd.size + 1)) = if 48 ≤ b ∧ b ≤ 57 then Nn.rdv ((10 * q + (b - 48)) % 18446744073709551616) (s.data.toList.drop (k + 1)) else none) := Lib.hid (by
        rw [HR.out, hdr, Nn.rdv, ← hb])
      have hl : s.data.toList.length = s.size := rfl
      have hnone : Hid ((¬ (48 ≤ b ∧ b ≤ 57)) → Nn.numR wd.data.toList s.data.toList = none) := Lib.hid (fun h => by
        have := HR1.out
        rw [if_neg h] at this
        unfold Nn.numR
        split
        · rfl
        · have e : wd.data.toList.length + 1 = wd.size + 1 := rfl
          rw [e, this])
      clear hdr hb hl HR
      by_cases hlo : b < 48
      · have HN := Lib.hid (hnone.out (by omega))
        clear hnone HR1 g1 g2 h1 h2 hw hs hk0
        go_wp2_with fail
        refine bodyPost_ret (v := .tuple #[.int .u64 (0 : Nat), .bool false]) (by simp [results, Tryz.results68, go_sem]) rfl ⟨?_, HB.out⟩
        rw [HN.out]; rfl
      · by_cases hhi : 57 < b
        · have HN := Lib.hid (hnone.out (by omega))
          clear hnone HR1 g1 g2 h1 h2 hw hs hk0
          go_wp2_with fail
          refine bodyPost_ret (v := .tuple #[.int .u64 (0 : Nat), .bool false]) (by simp [results, Tryz.results68, go_sem]) rfl ⟨?_, HB.out⟩
          rw [HN.out]; rfl
        · have HS1 : Hid (Nn.rdv 0 (s.data.toList.drop (wd.size + 1)) = Nn.rdv ((10 * q + (b - 48)) % 18446744073709551616) (s.data.toList.drop (k + 1))) := Lib.hid (by
            have := HR1.out
            rw [if_pos (by omega)] at this
            exact this)
          have hlo' : (48 : Int) ≤ b := by omega
          have hhi' : (b : Int) ≤ 57 := by omega
          have hsub : IntKind.u8.wrap ((b : Int) - 48) = ((b - 48 : Nat) : Int) := by rw [IntKind.wrap_u8]; omega
          clear hnone HR1 g1 g2 h1 h2 hw
          go_wp2_with fail
          go_roundw
          case rel =>
            refine ⟨k + 1, (10 * q + (b - 48)) % 18446744073709551616, by go_num, ?_, by omega, by omega, Lib.hid (Nat.mod_lt _ (by omega)), HS1, HB⟩
            refine congrArg (Value.int .u64) ?_
            rw [IntKind.wrap_u64, IntKind.wrap_u64]; omega
          case measure => simp [intOf]; omega
    · obtain rfl : k = s.size := by omega
      have HE : Hid (Nn.numR wd.data.toList s.data.toList = if Nn.name wd.data.toList q = s.data.toList then some q else none) := Lib.hid (by
        have h := HR.out
        rw [show s.data.toList.drop s.size = [] from List.drop_eq_nil_of_le (Nat.le_of_eq rfl), Nn.rdv] at h
        have e1 : s.data.toList.length = s.size := rfl
        have e2 : wd.data.toList.length = wd.size := rfl
        unfold Nn.numR
        rw [e1, e2, if_neg (by omega), h])
      have HNM := Lib.hid (fun W => nameR_any wd q W hw HQ.out)
      clear g1 g2 h1 h2 hs hw HR hlt hk hk0
      go_wp2_with fail
      refine (HNM.out _).mono ?_
      rintro e w1 ⟨rfl, hb1⟩
      have HB1 := Lib.hid (Below.next HB.out hb1)
      clear hb1 HNM HB
      generalize Nn.name wd.data.toList q = L at *
      obtain ⟨T, hT⟩ : ∃ T : ByteArray, T = ⟨L.toArray⟩ := ⟨_, rfl⟩
      rw [← hT]
      have HL : Hid (T.data.toList = L) := Lib.hid (by rw [hT])
      clear hT
      by_cases he : T = s
      · subst he
        have HF := Lib.hid (HE.out.trans (if_pos HL.out.symm))
        clear HE HL
        go_wp2_with fail
        refine bodyPost_ret (v := .tuple #[.int .u64 q, .bool true]) (by simp [results, Tryz.results68, go_sem]) rfl ⟨?_, HB1.out⟩
        rw [HF.out]; rfl
      · have HF := Lib.hid (HE.out.trans (if_neg fun h => he (by apply ByteArray.ext; apply Array.toList_inj.1; rw [HL.out, h])))
        clear HE HL
        have he1 : (T.toList == s.toList) = false := by rw [beq_eq_false_iff_ne]; exact fun h => he (str_eq h)
        go_wp2_with fail
        refine bodyPost_ret (v := .tuple #[.int .u64 (0 : Nat), .bool false]) (by simp [results, Tryz.results68, go_sem]) rfl ⟨?_, HB1.out⟩
        rw [HF.out]; rfl

set_option maxRecDepth 100000 in
theorem numberR_any (wd s : ByteArray) (w : World) (hw : wd.size ≤ 1000) (hs : s.size ≤ 1000) :
    Calls Tryz.prog 68 #[.string wd, .string s] w (Gives (numV (Nn.numR wd.data.toList s.data.toList)) w) := by
  have e1 : s.data.toList.length = s.size := rfl
  have e2 : wd.data.toList.length = wd.size := rfl
  by_cases h1 : s.size < wd.size + 9
  · have HN : Hid (Nn.numR wd.data.toList s.data.toList = none) := Lib.hid (by unfold Nn.numR; rw [e1, e2, if_pos (Or.inl h1)])
    have g1 : (s.size : Int) < wd.size + 9 := by omega
    clear h1 e1 e2
    go_enter Tryz.func68, Tryz.ntmps68
    go_wp2_with fail
    refine bodyPost_ret (v := .tuple #[.int .u64 (0 : Nat), .bool false]) (by simp [results, Tryz.results68, go_sem]) rfl ⟨?_, Below.refl _ _⟩
    rw [HN.out]; rfl
  · by_cases h2 : wd.size + 21 < s.size
    · have HN : Hid (Nn.numR wd.data.toList s.data.toList = none) := Lib.hid (by unfold Nn.numR; rw [e1, e2, if_pos (Or.inr h2)])
      have g1 : ¬ (s.size : Int) < wd.size + 9 := by omega
      have g2 : (wd.size : Int) + 21 < s.size := by omega
      clear h1 h2 e1 e2
      go_enter Tryz.func68, Tryz.ntmps68
      go_wp2_with fail
      refine bodyPost_ret (v := .tuple #[.int .u64 (0 : Nat), .bool false]) (by simp [results, Tryz.results68, go_sem]) rfl ⟨?_, Below.refl _ _⟩
      rw [HN.out]; rfl
    · exact numberR_mid wd s w hw hs (by omega) (by omega)

end Go.Proofs.YtfeconankopjmaaGreatDoor
