/- The walk of EditOnly. -/
import Derived.Test.YtlhokfildhcdhaaEdN
namespace Go.Proofs.Ytlhokfildhcdhaa
open Go.RowKit Sk
set_option linter.unusedVariables false

theorem rows_ge (l : List Tbl) : l.length ≤ (l.flatMap Ed.tbRow).length := by
  induction l with
  | nil => simp
  | cons t l ih =>
    have : 1 ≤ (Ed.tbRow t).length := by
      unfold Ed.tbRow varl Ed.nums
      have := (Nm.row_length t.n).1
      simp only [List.flatMap_cons, List.length_append]
      omega
    rw [List.flatMap_cons, List.length_append, List.length_cons]
    omega
theorem varl_ge (l : List Nat) : l.length ≤ (varl l).length := by
  induction l with
  | nil => simp
  | cons t l ih =>
    have := (Nm.row_length t).1
    unfold varl at *
    rw [List.flatMap_cons, List.length_append, List.length_cons]
    omega
theorem enc_add (e : Edt) : e.add.length ≤ (Ed.enc e).length := by
  have := rows_ge e.add
  unfold Ed.enc
  rw [List.length_append, List.length_append]
  omega
theorem enc_drop (e : Edt) : e.drop.length ≤ (Ed.enc e).length := by
  have := varl_ge e.drop
  unfold Ed.enc
  rw [List.length_append, List.length_append, List.length_append, List.length_append]
  omega
theorem in_of_right {e : Edt} (h : Ed.Right e) : Ed.In e := by
  obtain ⟨h1, h2, h3, h4, h5, h6, h7⟩ := h
  refine ⟨fun t ht => ?_, h4, h5, h6, h7⟩
  obtain ⟨a1, a2, a3, a4, a5, a6, a7, a8⟩ := h2 t ht
  exact ⟨a1, ⟨by omega, a2.2⟩, ⟨by omega, a3.2⟩, ⟨by omega, a4.2⟩, a7, a8⟩

set_option maxHeartbeats 8000000 in
theorem only_walk (s : ByteArray) (w : World) (hs : s.size ≤ 9223372036854775807) :
    Calls Try.prog 10 #[.string s] w (Gives (.bool true) w) := by
  by_cases h9 : 9000 < s.size
  · have h9' : (9000 : Int) < s.size := by omega
    have hcs : (s.extract 0 9000).size = 9000 := by rw [ByteArray.size_extract]; omega
    have HCS := Lib.hid hcs
    clear hs hcs
    go_enter Try.func10, Try.ntmps10
    go_wp2_with fail
    refine (decode_any (s.extract 0 9000) _ (by rw [HCS.out]; omega)).mono ?_
    rintro r w1 ⟨hb1, hcase⟩
    have HB1 := Lib.hid hb1
    clear hb1
    rcases hcase with ⟨hd, rfl⟩ | ⟨ed, ao, ac, bo, bc, hd, rfl, hown, hnm⟩
    · clear hd
      have HG : Hid (∀ W, Calls Try.prog 16 #[.agg #[.slice none 0 0, .slice none 0 0, .int .u64 0, .int .u64 0, .int .u64 0]] W (Gives (.agg #[.slice none 0 0, .slice none 0 0, .int .u64 0, .int .u64 0, .int .u64 0]) W)) := Lib.hid (fun W => given_any none 0 0 none 0 0 0 0 0 W)
      have HS : Hid (∀ W, Calls Try.prog 15 #[.agg #[.slice none 0 0, .slice none 0 0, .int .u64 0, .int .u64 0, .int .u64 0], .agg #[.slice none 0 0, .slice none 0 0, .int .u64 0, .int .u64 0, .int .u64 0]] W (Gives (.bool true) W)) := Lib.hid (fun W => same_yes none none 0 0 0 none none 0 0 0 edd W (Or.inl ⟨rfl, _, _, rfl⟩) (Or.inl ⟨rfl, _, _, rfl⟩) (Or.inl ⟨rfl, _, _, rfl⟩) (Or.inl ⟨rfl, _, _, rfl⟩) (by omega) (by omega))
      unfold edV
      go_wp2_with fail
      refine (HG.out _).mono ?_
      rintro r w2 ⟨rfl, hb2⟩
      have HB2 : Hid (Below w.heap.size w w2) := Lib.hid (Below.next (Below.next_alloc HB1.out _) hb2)
      clear hb2
      go_wp2_with fail
      refine (HS.out _).mono ?_
      rintro r w3 ⟨rfl, hb3⟩
      have HB3 : Hid (Below w.heap.size w w3) := Lib.hid (Below.next HB2.out hb3)
      clear hb3
      go_wp2_with fail
      refine (awake_any _).mono ?_
      rintro r w4 ⟨rfl, hb4⟩
      have HB4 : Hid (Below w.heap.size w w4) := Lib.hid (Below.next HB3.out hb4)
      clear hb4
      go_wp2_with fail
      go_ret
      exact ⟨rfl, HB4.out⟩
    · have hed : Ed.dec ((s.extract 0 9000).data.toList) = some ed := by
        unfold Ed.decode at hd
        split at hd
        · cases hd
        · exact hd
      obtain ⟨q1, q2, q3⟩ := Ed.of_dec hed
      have hlen : (Ed.enc ed).length ≤ 9000 := by rw [← q1]; rw [length_list, HCS.out]; omega
      have hal : ed.add.length ≤ 9000 := Nat.le_trans (enc_add ed) hlen
      have hdl : ed.drop.length ≤ 9000 := Nat.le_trans (enc_drop ed) hlen
      have hen : Ed.encode ed = (Ed.enc ed, 0) := by
        unfold Ed.encode
        rw [if_pos q3, if_neg (by simp [Ed.long]; omega)]
      have HE : Hid (∀ W, SeesTb W (.slice ao ed.add.length ac) ed.add → SeesU W (.slice bo ed.drop.length bc) ed.drop → Calls Try.prog 11 #[.agg #[.slice ao ed.add.length ac, .slice bo ed.drop.length bc, .int .u64 (ed.log : Nat), .int .u64 (ed.seq : Nat), .int .u64 (ed.next : Nat)]] W (Told (Ed.enc ed) 0 W)) := Lib.hid (fun W h1 h2 => by
        have := encode_any ao ed.add.length ac bo ed.drop.length bc ed W h1 h2 (by omega) (by omega) (in_of_right q2)
        rw [hen] at this
        exact this)
      have HC : Hid (∀ W, SeesTb W (.slice ao ed.add.length ac) ed.add → SeesU W (.slice bo ed.drop.length bc) ed.drop → Calls Try.prog 13 #[.agg #[.slice ao ed.add.length ac, .slice bo ed.drop.length bc, .int .u64 (ed.log : Nat), .int .u64 (ed.seq : Nat), .int .u64 (ed.next : Nat)]] W (Gives (.int .i64 0) W)) := Lib.hid (fun W h1 h2 => by
        have := check_any ao ed.add.length ac bo ed.drop.length bc ed W h1 h2 (by omega) (by omega)
        rw [q3] at this
        exact this)
      have HSE : Hid ((⟨(Ed.enc ed).toArray⟩ : ByteArray) = (s.extract 0 9000)) := Lib.hid (by rw [← q1])
      have HO := Lib.hid hown.sees; have HN := Lib.hid hnm.sees
      have hb2 : ∀ o, Below w1.heap.size w1 (w1.alloc o) := fun o => (Below.refl _ _).alloc (Nat.le_refl _) _
      have HA := Lib.hid hb2
      clear hd hed q1 q2 q3 hlen hal hdl hen hown hnm hb2
      unfold edV
      go_wp2_with fail
      refine (HE.out _ (HO.out.below (HA.out _)) (HN.out.below (HA.out _))).mono ?_
      rintro r w2 ⟨rfl, hb2⟩
      rw [HSE.out]
      have HA2 : Hid (Below w1.heap.size w1 w2) := Lib.hid (Below.next (HA.out _) hb2)
      obtain ⟨hcc, -⟩ := bcell hb2
      have hz : w1.heap.size < w2.heap.size := by have := hb2.size; simp at this; omega
      clear hb2
      go_wp2_with fail
      refine (HC.out _ (HO.out.below HA2.out) (HN.out.below HA2.out)).mono ?_
      rintro r w3 ⟨rfl, hb3⟩
      have HB3 : Hid (Below w.heap.size w w3) := Lib.hid (Below.next (Below.next HB1.out HA2.out) hb3)
      clear hb3
      go_wp2_with fail
      refine (awake_any _).mono ?_
      rintro r w4 ⟨rfl, hb4⟩
      have HB4 : Hid (Below w.heap.size w w4) := Lib.hid (Below.next HB3.out hb4)
      clear hb4
      go_wp2_with fail
      go_ret
      exact ⟨rfl, HB4.out⟩
  · have h9' : ¬ (9000 : Int) < s.size := by omega
    have HCS : Hid (s.size ≤ 9000) := Lib.hid (by omega)
    clear hs h9
    go_enter Try.func10, Try.ntmps10
    go_wp2_with fail
    refine (decode_any s _ (by have := HCS.out; omega)).mono ?_
    rintro r w1 ⟨hb1, hcase⟩
    have HB1 := Lib.hid hb1
    clear hb1
    rcases hcase with ⟨hd, rfl⟩ | ⟨ed, ao, ac, bo, bc, hd, rfl, hown, hnm⟩
    · clear hd
      have HG : Hid (∀ W, Calls Try.prog 16 #[.agg #[.slice none 0 0, .slice none 0 0, .int .u64 0, .int .u64 0, .int .u64 0]] W (Gives (.agg #[.slice none 0 0, .slice none 0 0, .int .u64 0, .int .u64 0, .int .u64 0]) W)) := Lib.hid (fun W => given_any none 0 0 none 0 0 0 0 0 W)
      have HS : Hid (∀ W, Calls Try.prog 15 #[.agg #[.slice none 0 0, .slice none 0 0, .int .u64 0, .int .u64 0, .int .u64 0], .agg #[.slice none 0 0, .slice none 0 0, .int .u64 0, .int .u64 0, .int .u64 0]] W (Gives (.bool true) W)) := Lib.hid (fun W => same_yes none none 0 0 0 none none 0 0 0 edd W (Or.inl ⟨rfl, _, _, rfl⟩) (Or.inl ⟨rfl, _, _, rfl⟩) (Or.inl ⟨rfl, _, _, rfl⟩) (Or.inl ⟨rfl, _, _, rfl⟩) (by omega) (by omega))
      unfold edV
      go_wp2_with fail
      refine (HG.out _).mono ?_
      rintro r w2 ⟨rfl, hb2⟩
      have HB2 : Hid (Below w.heap.size w w2) := Lib.hid (Below.next (Below.next_alloc HB1.out _) hb2)
      clear hb2
      go_wp2_with fail
      refine (HS.out _).mono ?_
      rintro r w3 ⟨rfl, hb3⟩
      have HB3 : Hid (Below w.heap.size w w3) := Lib.hid (Below.next HB2.out hb3)
      clear hb3
      go_wp2_with fail
      refine (awake_any _).mono ?_
      rintro r w4 ⟨rfl, hb4⟩
      have HB4 : Hid (Below w.heap.size w w4) := Lib.hid (Below.next HB3.out hb4)
      clear hb4
      go_wp2_with fail
      go_ret
      exact ⟨rfl, HB4.out⟩
    · have hed : Ed.dec (s.data.toList) = some ed := by
        unfold Ed.decode at hd
        split at hd
        · cases hd
        · exact hd
      obtain ⟨q1, q2, q3⟩ := Ed.of_dec hed
      have hlen : (Ed.enc ed).length ≤ 9000 := by rw [← q1]; rw [length_list]; exact HCS.out
      have hal : ed.add.length ≤ 9000 := Nat.le_trans (enc_add ed) hlen
      have hdl : ed.drop.length ≤ 9000 := Nat.le_trans (enc_drop ed) hlen
      have hen : Ed.encode ed = (Ed.enc ed, 0) := by
        unfold Ed.encode
        rw [if_pos q3, if_neg (by simp [Ed.long]; omega)]
      have HE : Hid (∀ W, SeesTb W (.slice ao ed.add.length ac) ed.add → SeesU W (.slice bo ed.drop.length bc) ed.drop → Calls Try.prog 11 #[.agg #[.slice ao ed.add.length ac, .slice bo ed.drop.length bc, .int .u64 (ed.log : Nat), .int .u64 (ed.seq : Nat), .int .u64 (ed.next : Nat)]] W (Told (Ed.enc ed) 0 W)) := Lib.hid (fun W h1 h2 => by
        have := encode_any ao ed.add.length ac bo ed.drop.length bc ed W h1 h2 (by omega) (by omega) (in_of_right q2)
        rw [hen] at this
        exact this)
      have HC : Hid (∀ W, SeesTb W (.slice ao ed.add.length ac) ed.add → SeesU W (.slice bo ed.drop.length bc) ed.drop → Calls Try.prog 13 #[.agg #[.slice ao ed.add.length ac, .slice bo ed.drop.length bc, .int .u64 (ed.log : Nat), .int .u64 (ed.seq : Nat), .int .u64 (ed.next : Nat)]] W (Gives (.int .i64 0) W)) := Lib.hid (fun W h1 h2 => by
        have := check_any ao ed.add.length ac bo ed.drop.length bc ed W h1 h2 (by omega) (by omega)
        rw [q3] at this
        exact this)
      have HSE : Hid ((⟨(Ed.enc ed).toArray⟩ : ByteArray) = s) := Lib.hid (by rw [← q1])
      have HO := Lib.hid hown.sees; have HN := Lib.hid hnm.sees
      have hb2 : ∀ o, Below w1.heap.size w1 (w1.alloc o) := fun o => (Below.refl _ _).alloc (Nat.le_refl _) _
      have HA := Lib.hid hb2
      clear hd hed q1 q2 q3 hlen hal hdl hen hown hnm hb2
      unfold edV
      go_wp2_with fail
      refine (HE.out _ (HO.out.below (HA.out _)) (HN.out.below (HA.out _))).mono ?_
      rintro r w2 ⟨rfl, hb2⟩
      rw [HSE.out]
      have HA2 : Hid (Below w1.heap.size w1 w2) := Lib.hid (Below.next (HA.out _) hb2)
      obtain ⟨hcc, -⟩ := bcell hb2
      have hz : w1.heap.size < w2.heap.size := by have := hb2.size; simp at this; omega
      clear hb2
      go_wp2_with fail
      refine (HC.out _ (HO.out.below HA2.out) (HN.out.below HA2.out)).mono ?_
      rintro r w3 ⟨rfl, hb3⟩
      have HB3 : Hid (Below w.heap.size w w3) := Lib.hid (Below.next (Below.next HB1.out HA2.out) hb3)
      clear hb3
      go_wp2_with fail
      refine (awake_any _).mono ?_
      rintro r w4 ⟨rfl, hb4⟩
      have HB4 : Hid (Below w.heap.size w w4) := Lib.hid (Below.next HB3.out hb4)
      clear hb4
      go_wp2_with fail
      go_ret
      exact ⟨rfl, HB4.out⟩

end Go.Proofs.Ytlhokfildhcdhaa
