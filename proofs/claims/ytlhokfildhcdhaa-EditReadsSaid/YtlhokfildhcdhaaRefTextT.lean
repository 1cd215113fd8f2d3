/- The walks of the document's Text and ReadText, for seats without layer 1's statements. -/
import Derived.Test.YtlhokfildhcdhaaRefRowT
import Derived.Test.YtlhokfildhcdhaaNumVarU
namespace Go.Proofs.Ytlhokfildhcdhaa
open Go.RowKit

theorem mk_of {l : List UInt8} {S : ByteArray} (h : l = S.data.toList) : (⟨l.toArray⟩ : ByteArray) = S := by rw [h]

theorem SeesS.get {w : World} {ao : Option Addr} {len cap : Nat} {ss : List ByteArray} (h : SeesS w (.slice ao len cap) ss) :
    ss.length = len ∧ ∃ b off, ∀ i, i < len → ao = some ⟨b, off, none⟩ ∧ b < w.heap.size ∧ w.cell? ⟨b, off + i, none⟩ = some (.string (ss.getD i ByteArray.empty)) := by
  rcases h with ⟨rfl, a, c, h⟩ | ⟨b, off, c, h, hb, hc⟩
  · simp only [Value.slice.injEq] at h
    obtain ⟨rfl, rfl, rfl⟩ := h
    exact ⟨rfl, 0, 0, fun i hi => by omega⟩
  · simp only [Value.slice.injEq] at h
    obtain ⟨rfl, rfl, rfl⟩ := h
    exact ⟨rfl, b, off, fun i hi => ⟨rfl, hb, hc i hi⟩⟩

set_option maxRecDepth 100000 in
set_option maxHeartbeats 2000000 in
theorem refText_any (ao : Option Addr) (len cap : Nat) (ss : List ByteArray) (w : World) (hV : SeesS w (.slice ao len cap) ss) (hl : len ≤ 100000000) (hsum : suml ss ≤ 100000000) :
    Calls Try.prog 41 #[.slice ao len cap] w (Gives (.string ⟨(textl ss).toArray⟩) w) := by
  obtain ⟨hlen, b, off, hcell⟩ := hV.get
  have HC := Lib.hid hcell; have HLEN := Lib.hid hlen; have HSUM := Lib.hid hsum; clear hcell hlen hV hsum
  have HL := Lib.hid hl
  go_enter Try.func41, Try.ntmps41
  go_wp2_with fail
  go_loopw [3, 4] (fun u i wr => ∃ (k : Nat) (S : ByteArray), k ≤ len ∧ i = .int .i64 k ∧ u = .string S ∧ S = ⟨(textl (ss.take k)).toArray⟩ ∧ Below w.heap.size w wr) (fun _ i _ => len - (intOf i).toNat)
  case atStart => exact ⟨0, _, Nat.zero_le _, rfl, rfl, by simp [textl], Below.refl _ _⟩
  case round =>
    obtain ⟨k, S, hk, rfl, rfl, hS, hbel⟩ := hrel
    have hSs : S.size ≤ 1000000000 := by
      have h1 := textl_length (ss.take k)
      have h2 : (ss.take k).length ≤ k := List.length_take_le ..
      have h3 := HL.out
      have h4 := suml_take ss k
      have h5 := HSUM.out
      rw [hS]
      show (textl (ss.take k)).length ≤ _
      omega
    have HS := Lib.hid hS; have HB := Lib.hid hbel; clear hS hbel
    by_cases hlt : k < len
    · obtain ⟨rfl, hbl, hcl⟩ := HC.out k hlt
      have hcell : wr.cell? ⟨b, off + k, none⟩ = some (.string (ss.getD k ByteArray.empty)) := (HB.out.cell (p := ⟨b, off + k, none⟩) hbl).trans hcl
      have hk' : k < ss.length := by rw [HLEN.out]; exact hlt
      have HV : Hid (textl (ss.take (k + 1)) = textl (ss.take k) ++ Nm.row (ss.getD k ByteArray.empty).size ++ (ss.getD k ByteArray.empty).data.toList) := textl_snoc ss k hk'
      have hxs : (ss.getD k ByteArray.empty).size ≤ 100000000 := by
        have h1 := suml_snoc ss k hk'
        have h2 := suml_take ss (k + 1)
        have h3 := HSUM.out
        omega
      clear hcl hk'
      generalize ss.getD k ByteArray.empty = x at *
      have hr := (Nm.row_length x.size).2
      have hblr : b < wr.heap.size := Nat.lt_of_lt_of_le hbl HB.out.size
      have hk0 : (0 : Int) ≤ (k : Int) := by omega
      have hk1 : (k : Int) < (len : Int) := by omega
      have hadd : ¬ 9223372036854775807 < S.size + (Nm.row x.size).length := by omega
      have hadd2 : ¬ 9223372036854775807 < S.size + (Nm.row x.size).length + x.size := by omega
      go_wp2_with fail
      have hwr : IntKind.u64.wrap (x.size : Int) = (x.size : Int) := by rw [IntKind.wrap_u64]; omega
      go_region_held3 (fun w' => w'.cell? ⟨b, off + k, none⟩ = some (.string x)) (first | go_keep | (refine (hb1.cell (p := ⟨b, off + k, none⟩) (by simpa using hblr)).trans ?_; simpa using hcell)) (first | (go_at_call 39; refine (refRow_any _ _ (by omega) (by clear hwr; omega)).mono ?_; rintro e w1 ⟨rfl, hb1⟩; rw [Int.toNat_natCast]))
      clear hwr
      go_wp2
      go_roundw
      case rel =>
        refine ⟨k + 1, _, by omega, by go_num, rfl, ?_, Below.next HB.out.drew hb1⟩
        have e : x = ⟨x.data.toList.toArray⟩ := (mk_of rfl).symm
        rw [HV.out, HS.out, mk_app]
        conv => lhs; rw [e]
        exact mk_app _ _
      case measure => simp [intOf]; omega
    · go_wp2_with fail
      go_ret
      have : ss.take k = ss := List.take_of_length_le (by rw [HLEN.out]; omega)
      rw [HS.out, this]
      exact ⟨rfl, HB.out⟩


set_option maxHeartbeats 400000 in
theorem refReadText_none (s : ByteArray) (most : Int) (w : World) (hs : s.size ≤ 9223372036854775807) (hv : rvV s.data.toList = .tuple #[.int .u64 0, .int .i64 0, .bool false]) :
    Calls Try.prog 55 #[.string s, .int .i64 most] w (Gives noText w) := by
  have HV := Lib.hid hv; clear hv
  have HS := Lib.hid hs; clear hs
  go_enter Try.func55, Try.ntmps55
  go_wp2_with fail
  refine (refReadVar_any _ _ HS.out).mono ?_
  rintro e w1 ⟨rfl, hb1⟩
  rw [HV.out]
  go_wp2_with fail
  go_ret3
  exact ⟨rfl, hb1⟩

set_option maxHeartbeats 400000 in
theorem refReadText_over (s : ByteArray) (most n k : Int) (w : World) (hs : s.size ≤ 281474976710656) (hv : rvV s.data.toList = .tuple #[.int .u64 n, .int .i64 k, .bool true]) (h1 : (s.size : Int) < n) :
    Calls Try.prog 55 #[.string s, .int .i64 most] w (Gives noText w) := by
  have HV := Lib.hid hv; clear hv
  go_enter Try.func55, Try.ntmps55
  go_wp2_with fail
  refine (refReadVar_any _ _ (by omega)).mono ?_
  rintro e w1 ⟨rfl, hb1⟩
  rw [HV.out]
  go_wp2_with fail
  go_ret3
  exact ⟨rfl, hb1⟩

set_option maxHeartbeats 400000 in
theorem refReadText_cut (s : ByteArray) (most n k : Int) (w : World) (hs : s.size ≤ 281474976710656) (hv : rvV s.data.toList = .tuple #[.int .u64 n, .int .i64 k, .bool true]) (h0 : 0 ≤ n) (h1 : n ≤ s.size) (hk0 : 1 ≤ k) (hk : k ≤ s.size)
    (hn : s.size < k + n) :
    Calls Try.prog 55 #[.string s, .int .i64 most] w (Gives noText w) := by
  have HV := Lib.hid hv; clear hv
  go_enter Try.func55, Try.ntmps55
  go_wp2_with fail
  refine (refReadVar_any _ _ (by omega)).mono ?_
  rintro e w1 ⟨rfl, hb1⟩
  rw [HV.out]
  go_wp2_with fail
  go_ret3
  exact ⟨rfl, hb1⟩

set_option maxHeartbeats 400000 in
theorem refReadText_most (s : ByteArray) (most n k : Int) (w : World) (hs : s.size ≤ 281474976710656) (hv : rvV s.data.toList = .tuple #[.int .u64 n, .int .i64 k, .bool true]) (h0 : 0 ≤ n) (h1 : n ≤ s.size) (hk0 : 1 ≤ k)
    (hn : k + n ≤ s.size) (hm : most < n) :
    Calls Try.prog 55 #[.string s, .int .i64 most] w (Gives noText w) := by
  have HV := Lib.hid hv; clear hv
  go_enter Try.func55, Try.ntmps55
  go_wp2_with fail
  refine (refReadVar_any _ _ (by omega)).mono ?_
  rintro e w1 ⟨rfl, hb1⟩
  rw [HV.out]
  go_wp2_with fail
  go_ret3
  exact ⟨rfl, hb1⟩

set_option maxHeartbeats 400000 in
theorem refReadText_yes (s : ByteArray) (most : Int) (n k : Nat) (w : World) (hs : s.size ≤ 281474976710656) (hv : rvV s.data.toList = .tuple #[.int .u64 n, .int .i64 k, .bool true]) (hk0 : 1 ≤ k)
    (hn : k + n ≤ s.size) (hm : n ≤ most) :
    Calls Try.prog 55 #[.string s, .int .i64 most] w (Gives (.tuple #[.string (s.extract k (k + n)), .int .i64 ((k : Int) + n), .bool true]) w) := by
  have HV := Lib.hid hv; clear hv
  have hn1 : (n : Int) ≤ s.size := by omega
  have hn2 : (k : Int) + n ≤ s.size := by omega
  go_enter Try.func55, Try.ntmps55
  go_wp2_with fail
  refine (refReadVar_any _ _ (by omega)).mono ?_
  rintro e w1 ⟨rfl, hb1⟩
  rw [HV.out]
  go_wp2_with fail
  go_ret3
  exact ⟨rfl, hb1⟩

/-- The document's ReadText, of every text of at most 2^48 bytes. -/
theorem refReadText_any (s : ByteArray) (most : Int) (w : World) (hs : s.size ≤ 281474976710656) :
    Calls Try.prog 55 #[.string s, .int .i64 most] w (Gives (rtV s.data.toList most) w) := by
  cases h : Nm.rv s.data.toList with
  | none =>
    have e : rtV s.data.toList most = noText := by unfold rtV rt; rw [h]
    rw [e]
    exact refReadText_none s most w (by omega) (rvV_none h)
  | some p =>
    obtain ⟨n, k⟩ := p
    have hv := rvV_some h
    obtain ⟨hk0, hk, -, -⟩ := Nm.row_rv h
    rw [length_list] at hk
    by_cases hc : most < n ∨ s.data.toList.length < k + n
    · have e : rtV s.data.toList most = noText := by unfold rtV rt; rw [h]; simp only [if_pos hc]
      rw [e]
      rw [length_list] at hc
      by_cases h1 : s.size < n
      · exact refReadText_over s most n k w hs hv (by omega)
      · by_cases h2 : s.size < k + n
        · exact refReadText_cut s most n k w hs hv (by omega) (by omega) (by omega) (by omega) (by omega)
        · exact refReadText_most s most n k w hs hv (by omega) (by omega) (by omega) (by omega) (by omega)
    · have e : rtV s.data.toList most = .tuple #[.string (s.extract k (k + n)), .int .i64 ((k : Int) + n), .bool true] := by
        unfold rtV rt
        rw [h]
        simp only [if_neg hc]
        rw [Lib.extract_eq, Nat.add_sub_cancel_left, Int.natCast_add]
      rw [e]
      rw [length_list] at hc
      exact refReadText_yes s most n k w hs hv hk0 (by omega) (by omega)

end Go.Proofs.Ytlhokfildhcdhaa
