/- Texts on the program's own functions, several in one: BnRefRowT, BnRefTextT. -/
import Derived.Test.YtphoihkbdogkhaaDoorPk5
import Derived.Deep.RegionHeld3
import Derived.Test.YtphoihkbdogkhaaDoorPk4

/- Walks of the document's Row and ReadVar of layer 1 (no other function of layer 1's statements is named). -/
namespace Go.Proofs.YtphoihkbdogkhaaDoor.Bn
set_option maxRecDepth 100000
open Go.RowKit

theorem big_cons : ∀ (w n : Nat), Nm.big n (w + 1) = UInt8.ofNat (n / 256 ^ w) :: Nm.big n w
  | 0, n => by simp [Nm.big]
  | w + 1, n => by
    rw [Nm.big, big_cons w (n / 256), Nat.div_div_eq_div_mul, ← Nat.pow_succ', List.cons_append]
    rfl

/-- 'string([]byte of one byte)'. -/
theorem convert_one (W : World) (c : Int) (b : UInt8) (h : c = b.toNat) :
    (convert 34 9 (.slice (some ⟨W.heap.size, 0, none⟩) 1 1)).run Tryd.prog (W.alloc (.cells #[.int .u8 c] 5)) = .ok (.string ⟨#[b]⟩) (W.alloc (.cells #[.int .u8 c] 5)) := by
  subst h
  refine run_convert_bytes_back (l := [b]) _ _ _ _ _ _ Tryd.underlying34 Tryd.underlying5 Tryd.underlying9 ?_
  intro j hj
  match j, hj with
  | 0, _ => simp [Addr.add]

theorem byteOf_mod (m : Nat) : ((m : Int) % 256) = (UInt8.ofNat m).toNat := by rw [Nm.toNat_ofNat]; omega
theorem mk_cons (b : UInt8) (S : ByteArray) (l : List UInt8) (h : S.data.toList = l) : (⟨#[b]⟩ : ByteArray) ++ S = ⟨(b :: l).toArray⟩ := by
  subst h
  apply ByteArray.ext
  rw [ByteArray.data_append]
  simp

set_option maxHeartbeats 800000 in
theorem bytesOf_any (N : Nat) (w : World) (hN : N < 18446744073709551616) :
    Calls Tryd.prog 72 #[.int .u64 N] w (Gives (.string ⟨(Nm.big N (Nm.wid N)).toArray⟩) w) := by
  have HN := Lib.hid hN; clear hN
  go_enter Tryd.func72, Tryd.ntmps72
  go_wp2_with fail
  go_loopw [0, 3] (fun n s wr => ∃ (j m : Nat) (S : ByteArray), n = .int .u64 m ∧ s = .string S ∧ m = N / 256 ^ j ∧ S = ⟨(Nm.big N j).toArray⟩ ∧ j ≤ Nm.wid N ∧ Below w.heap.size w wr) (fun n _ _ => (intOf n).toNat)
  case atStart => exact ⟨0, N, _, rfl, rfl, by simp, rfl, Nat.zero_le _, Below.refl _ _⟩
  case round =>
    obtain ⟨j, m, S, rfl, rfl, hm, hS, hj, hbel⟩ := hrel
    have HM := Lib.hid hm; have HS := Lib.hid hS; have HJ := Lib.hid hj; have HB := Lib.hid hbel
    clear hm hS hj hbel
    have hj8 : j ≤ 8 := Nat.le_trans HJ.out (Nm.wid_le8 N)
    have hSs : S.size ≤ 8 := by rw [HS.out]; show (Nm.big N j).length ≤ 8; rw [Nm.big_length]; exact hj8
    by_cases h0 : m = 0
    · subst h0
      have hw : Nm.wid N = j := by
        have h1 : N < 256 ^ j := by
          rcases Nat.lt_or_ge N (256 ^ j) with h | h
          · exact h
          · have := (Nat.one_le_div_iff (Nat.pow_pos (n := j) (show 0 < 256 by omega))).2 h
            have h2 := HM.out
            omega
        have h2 := (Nm.wid_le HN.out hj8).2 h1
        have h3 := HJ.out
        omega
      have HW := Lib.hid hw; clear hw
      go_wp2_with fail
      go_ret
      rw [HW.out, HS.out]
      exact ⟨rfl, HB.out⟩
    · have hpos : 0 < m := by omega
      have hc := fun W : World => convert_one W ((m : Int) % 256) (UInt8.ofNat m) (byteOf_mod m)
      have hadd : ¬ 9223372036854775807 < 1 + S.size := by omega
      have hlt : j < Nm.wid N := by
        rcases Nat.lt_or_ge j (Nm.wid N) with h | h
        · exact h
        · have h1 := (Nm.wid_le HN.out hj8).1 h
          have h2 := HM.out
          rw [Nat.div_eq_of_lt h1] at h2
          omega
      have HLT := Lib.hid hlt; clear hlt
      have HQ : Hid (IntKind.u64.wrap ((m : Int) / 256) = ((m / 256 : Nat) : Int)) := by
        have h1 : m ≤ N := by rw [HM.out]; exact Nat.div_le_self _ _
        have h2 := HN.out
        show IntKind.u64.wrap ((m : Int) / 256) = ((m / 256 : Nat) : Int)
        rw [IntKind.wrap_u64]; omega
      clear h0
      go_wp2_with fail
      go_roundw
      case rel =>
        refine ⟨j + 1, m / 256, _, ?_, rfl, ?_, ?_, HLT.out, HB.out.alloc HB.out.size _⟩
        · rw [HQ.out]
        · rw [HM.out, Nat.div_div_eq_div_mul, Nat.pow_succ]
        · rw [big_cons, ← HM.out]
          exact mk_cons _ _ _ (by rw [HS.out])
      case measure => simp only [intOf]; rw [HQ.out]; omega

set_option maxHeartbeats 800000 in
theorem refRow_any (x : Int) (w : World) (h0 : 0 ≤ x) (h1 : x ≤ 18446744073709551615) :
    Calls Tryd.prog 73 #[.int .u64 x] w (Gives (.string ⟨(Nm.row x.toNat).toArray⟩) w) := by
  have HN := Lib.hid h1; clear h1
  by_cases h : x < 248
  · have hc := fun W : World => convert_one W x (UInt8.ofNat x.toNat) (by rw [Nm.toNat_ofNat]; omega)
    have HR := Lib.hid (Nm.row_short (n := x.toNat) (by omega))
    generalize Nm.row x.toNat = L at *
    go_enter Tryd.func73, Tryd.ntmps73
    go_wp2_with fail
    go_ret
    rw [HR.out]
    exact ⟨rfl, (Below.refl _ _).alloc (Nat.le_refl _) _⟩
  · have HR := Lib.hid (Nm.row_long (n := x.toNat) (by omega))
    have h8 := Nm.wid_le8 x.toNat
    have hlb := Nm.big_length (Nm.wid x.toNat) x.toNat
    have hN2 : 248 ≤ x := by omega
    have HNN : Hid (x.toNat < 18446744073709551616) := by have := HN.out; show x.toNat < 18446744073709551616; omega
    have HX : Hid ((x.toNat : Int) = x) := Int.toNat_of_nonneg h0
    generalize hX : x.toNat = N at *
    generalize Nm.row N = L at *
    generalize hWd : Nm.wid N = W at *
    have HWD := Lib.hid hWd; clear hWd
    generalize hB : Nm.big N W = B at *
    have HBB := Lib.hid hB; clear hB h hX
    have hl1 : B.length ≤ W := by omega
    have hl2 : W ≤ B.length := by omega
    have hbt : (UInt8.ofNat (247 + W)).toNat = 247 + W := by rw [Nm.toNat_ofNat]; omega
    generalize UInt8.ofNat (247 + W) = bb at *
    have hc := fun Wd : World => convert_one Wd (247 + (B.length : Int)) bb (by rw [hbt]; omega)
    clear hbt
    have hadd : ¬ 9223372036854775807 < 1 + B.length := by omega
    clear hlb
    go_enter Tryd.func73, Tryd.ntmps73
    go_wp2_with fail
    rw [← HX.out]
    refine (bytesOf_any _ _ HNN.out).mono ?_
    rintro e w1 ⟨rfl, hb1⟩
    rw [HWD.out, HBB.out]
    go_wp2_with fail
    go_ret
    rw [HR.out]
    refine ⟨?_, Below.next_alloc hb1 _⟩
    exact congrArg (fun z => Ending.returned (Value.string z)) (mk_cons _ _ _ rfl)

/-- What the document's ReadBig reads: as readBig_yes, readBig_no. -/
theorem mul_byte (A b : Nat) (h : 256 * A + b < 18446744073709551616) :
    IntKind.u64.wrap (IntKind.u64.wrap (256 * (A : Int)) + (b : Int)) = ((256 * A + b : Nat) : Int) := by
  rw [IntKind.wrap_u64, IntKind.wrap_u64]; omega

theorem mk_app (x y : List UInt8) : (⟨x.toArray⟩ : ByteArray) ++ ⟨y.toArray⟩ = ⟨(x ++ y).toArray⟩ := by
  apply ByteArray.ext
  rw [ByteArray.data_append]
  simp


/-- The number of the bytes from the second one on. -/
theorem take_drop_snoc (s : ByteArray) (k : Nat) (h : 1 + k < s.size) : (s.data.toList.drop 1).take (k + 1) = (s.data.toList.drop 1).take k ++ [s[1 + k]] := by
  rw [List.take_succ_eq_append_getElem (by rw [List.length_drop, length_list]; omega)]
  congr 2
  rw [List.getElem_drop]
  rfl

/-- What ReadVar answers where a row might stand. -/
def rvG (G : Bool) (V t : Nat) : Value := if G = true then .tuple #[.int .u64 0, .int .i64 0, .bool false] else .tuple #[.int .u64 V, .int .i64 ((t : Int) + 1), .bool true]

end Go.Proofs.YtphoihkbdogkhaaDoor.Bn

/- The walks of the document's Text and ReadText, for seats without layer 1's statements. -/
namespace Go.Proofs.YtphoihkbdogkhaaDoor.Bn
set_option maxRecDepth 100000
open Go.RowKit

theorem mk_of {l : List UInt8} {S : ByteArray} (h : l = S.data.toList) : (⟨l.toArray⟩ : ByteArray) = S := by rw [h]

theorem SeesS.get {w : World} {ao : Option Addr} {len cap : Nat} {ss : List ByteArray} (h : SeesS w (.slice ao len cap) ss) :
    ss.length = len ∧ ∃ b off, ∀ i, i < len → ao = some ⟨b, off, none⟩ ∧ b < w.heap.size ∧ w.cell? ⟨b, off + i, none⟩ = some (.string (ss.getD i ByteArray.empty)) := by
  rcases h with ⟨rfl, a, c, h⟩ | ⟨b, off, c, h, hb, hc⟩
  · simp only [Value.slice.injEq] at h
    obtain ⟨rfl, rfl, rfl⟩ := h
    exact ⟨rfl, 0, 0, fun i hi => by omega⟩
  · simp only [Value.slice.injEq] at h
    obtain ⟨rfl, rfl, rfl⟩ := h
    exact ⟨rfl, b, off, fun i hi => ⟨rfl, hb, hc i hi⟩⟩

set_option maxRecDepth 100000 in
set_option maxHeartbeats 2000000 in
theorem refText_any (ao : Option Addr) (len cap : Nat) (ss : List ByteArray) (w : World) (hV : SeesS w (.slice ao len cap) ss) (hl : len ≤ 100000000) (hsum : suml ss ≤ 100000000) :
    Calls Tryd.prog 94 #[.slice ao len cap] w (Gives (.string ⟨(textl ss).toArray⟩) w) := by
  obtain ⟨hlen, b, off, hcell⟩ := hV.get
  have HC := Lib.hid hcell; have HLEN := Lib.hid hlen; have HSUM := Lib.hid hsum; clear hcell hlen hV hsum
  have HL := Lib.hid hl
  go_enter Tryd.func94, Tryd.ntmps94
  go_wp2_with fail
  go_loopw [3, 4] (fun u i wr => ∃ (k : Nat) (S : ByteArray), k ≤ len ∧ i = .int .i64 k ∧ u = .string S ∧ S = ⟨(textl (ss.take k)).toArray⟩ ∧ Below w.heap.size w wr) (fun _ i _ => len - (intOf i).toNat)
  case atStart => exact ⟨0, _, Nat.zero_le _, rfl, rfl, by simp [textl], Below.refl _ _⟩
  case round =>
    obtain ⟨k, S, hk, rfl, rfl, hS, hbel⟩ := hrel
    have hSs : S.size ≤ 1000000000 := by
      have h1 := textl_length (ss.take k)
      have h2 : (ss.take k).length ≤ k := List.length_take_le ..
      have h3 := HL.out
      have h4 := suml_take ss k
      have h5 := HSUM.out
      rw [hS]
      show (textl (ss.take k)).length ≤ _
      omega
    have HS := Lib.hid hS; have HB := Lib.hid hbel; clear hS hbel
    by_cases hlt : k < len
    · obtain ⟨rfl, hbl, hcl⟩ := HC.out k hlt
      have hcell : wr.cell? ⟨b, off + k, none⟩ = some (.string (ss.getD k ByteArray.empty)) := (HB.out.cell (p := ⟨b, off + k, none⟩) hbl).trans hcl
      have hk' : k < ss.length := by rw [HLEN.out]; exact hlt
      have HV : Hid (textl (ss.take (k + 1)) = textl (ss.take k) ++ Nm.row (ss.getD k ByteArray.empty).size ++ (ss.getD k ByteArray.empty).data.toList) := textl_snoc ss k hk'
      have hxs : (ss.getD k ByteArray.empty).size ≤ 100000000 := by
        have h1 := suml_snoc ss k hk'
        have h2 := suml_take ss (k + 1)
        have h3 := HSUM.out
        omega
      clear hcl hk'
      generalize ss.getD k ByteArray.empty = x at *
      have hr := (Nm.row_length x.size).2
      have hblr : b < wr.heap.size := Nat.lt_of_lt_of_le hbl HB.out.size
      have hk0 : (0 : Int) ≤ (k : Int) := by omega
      have hk1 : (k : Int) < (len : Int) := by omega
      have hadd : ¬ 9223372036854775807 < S.size + (Nm.row x.size).length := by omega
      have hadd2 : ¬ 9223372036854775807 < S.size + (Nm.row x.size).length + x.size := by omega
      go_wp2_with fail
      have hwr : IntKind.u64.wrap (x.size : Int) = (x.size : Int) := by rw [IntKind.wrap_u64]; omega
      go_region_held3 (fun w' => w'.cell? ⟨b, off + k, none⟩ = some (.string x)) (first | go_keep | (refine (hb1.cell (p := ⟨b, off + k, none⟩) (by simpa using hblr)).trans ?_; simpa using hcell)) (first | (go_at_call 73; refine (refRow_any _ _ (by omega) (by clear hwr; omega)).mono ?_; rintro e w1 ⟨rfl, hb1⟩; rw [Int.toNat_natCast]))
      clear hwr
      go_wp2
      go_roundw
      case rel =>
        refine ⟨k + 1, _, by omega, by go_num, rfl, ?_, Below.next HB.out.drew hb1⟩
        have e : x = ⟨x.data.toList.toArray⟩ := (mk_of rfl).symm
        rw [HV.out, HS.out, mk_app]
        conv => lhs; rw [e]
        exact mk_app _ _
      case measure => simp [intOf]; omega
    · go_wp2_with fail
      go_ret
      have : ss.take k = ss := List.take_of_length_le (by rw [HLEN.out]; omega)
      rw [HS.out, this]
      exact ⟨rfl, HB.out⟩


end Go.Proofs.YtphoihkbdogkhaaDoor.Bn
