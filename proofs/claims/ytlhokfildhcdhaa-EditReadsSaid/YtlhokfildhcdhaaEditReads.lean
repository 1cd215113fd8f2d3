/- The walk of EditReads. -/
import Derived.Test.YtlhokfildhcdhaaEdW
import Derived.Test.YtlhokfildhcdhaaEditOnly
import Derived.Deep.RegionHeld3
namespace Go.Proofs.Ytlhokfildhcdhaa
open Go.RowKit Sk
set_option linter.unusedVariables false

theorem dec_len {l : List UInt8} {e : Edt} (h : Ed.dec l = some e) : e.add.length ≤ l.length ∧ e.drop.length ≤ l.length := by
  obtain ⟨hl, -, -⟩ := Ed.of_dec h
  have g1 : e.add.length ≤ (e.add.flatMap Ed.tbRow).length := Ed.rows_ge (fun t => by
    unfold Ed.tbRow varl Ed.nums
    have := (Nm.row_length t.n).1
    simp only [List.flatMap_cons, List.length_append]; omega) _
  have g2 : e.drop.length ≤ (varl e.drop).length := Ed.rows_ge (row := Nm.row) (fun n => (Nm.row_length n).1) e.drop
  rw [hl]
  unfold Ed.enc
  simp only [List.length_append]
  omega
/-- What a reading gives, told alike for both. -/
def Gave (d : Edt) (B : Bool) (w : World) (e : Ending) (w' : World) : Prop :=
  Below w.heap.size w w' ∧ ∃ ao ac bo bc, e = .returned (.tuple #[.agg #[.slice ao d.add.length ac, .slice bo d.drop.length bc, .int .u64 (d.log : Nat), .int .u64 (d.seq : Nat), .int .u64 (d.next : Nat)], .bool B]) ∧ SeesTb w' (.slice ao d.add.length ac) d.add ∧ SeesU w' (.slice bo d.drop.length bc) d.drop
theorem gave_both (s : ByteArray) (hs : s.size ≤ 9000) : ∃ d B, (d.add.length ≤ 9000 ∧ d.drop.length ≤ 9000) ∧ (∀ W, Calls Try.prog 14 #[.string s] W (Gave d B W)) ∧ ∀ W, Calls Try.prog 22 #[.string s] W (Gave d B W) := by
  have hl : s.data.toList.length = s.size := by simp
  have k1 := fun W => decode_any s W (by omega)
  have k2 := fun W => decref_any s W hs
  cases h : Ed.decode s.data.toList with
  | none =>
    refine ⟨edd, false, ⟨by simp [edd], by simp [edd]⟩, fun W => (k1 W).mono ?_, fun W => (k2 W).mono ?_⟩
    · rw [h]
      rintro e w' ⟨hb, hc⟩
      rcases hc with ⟨-, rfl⟩ | ⟨_, _, _, _, _, h, _⟩
      · exact ⟨hb, none, 0, none, 0, rfl, Or.inl ⟨rfl, _, _, rfl⟩, Or.inl ⟨rfl, _, _, rfl⟩⟩
      · cases h
    · rw [h]
      rintro e w' ⟨hb, hc⟩
      rcases hc with ⟨-, rfl⟩ | ⟨_, _, _, _, _, h, _⟩
      · exact ⟨hb, none, 0, none, 0, rfl, Or.inl ⟨rfl, _, _, rfl⟩, Or.inl ⟨rfl, _, _, rfl⟩⟩
      · cases h
  | some d =>
    have hd : Ed.dec s.data.toList = some d := by unfold Ed.decode at h; rwa [if_neg (by omega)] at h
    obtain ⟨l1, l2⟩ := dec_len hd
    refine ⟨d, true, ⟨by omega, by omega⟩, fun W => (k1 W).mono ?_, fun W => (k2 W).mono ?_⟩
    · rw [h]
      rintro e w' ⟨hb, hc⟩
      rcases hc with ⟨h, _⟩ | ⟨d', ao, ac, bo, bc, h, rfl, h1, h2⟩
      · cases h
      · obtain rfl := Option.some.inj h
        exact ⟨hb, ao, ac, bo, bc, rfl, h1.sees, h2.sees⟩
    · rw [h]
      rintro e w' ⟨hb, hc⟩
      rcases hc with ⟨h, _⟩ | ⟨d', ao, ac, bo, bc, h, rfl, h1, h2⟩
      · cases h
      · obtain rfl := Option.some.inj h
        exact ⟨hb, ao, ac, bo, bc, rfl, h1, h2⟩
/-- The boxes that the end looks at. -/
abbrev RdX (w : World) (b3 b0 : Nat) (A3 D3 A0 D0 : Value) (lg sq nx : Nat) : Prop := w.cell? ⟨b3, 0, none⟩ = some A3 ∧ w.cell? ⟨b3, 1, none⟩ = some D3 ∧ w.cell? ⟨b3, 2, none⟩ = some (.int .u64 (lg : Nat)) ∧ w.cell? ⟨b3, 3, none⟩ = some (.int .u64 (sq : Nat)) ∧ w.cell? ⟨b3, 4, none⟩ = some (.int .u64 (nx : Nat)) ∧
  w.cell? ⟨b0, 0, none⟩ = some A0 ∧ w.cell? ⟨b0, 1, none⟩ = some D0 ∧ w.cell? ⟨b0, 2, none⟩ = some (.int .u64 (lg : Nat)) ∧ w.cell? ⟨b0, 3, none⟩ = some (.int .u64 (sq : Nat)) ∧ w.cell? ⟨b0, 4, none⟩ = some (.int .u64 (nx : Nat))

set_option maxHeartbeats 8000000 in
theorem reads_short (s : ByteArray) (w : World) (hs : s.size ≤ 9000) :
    Calls Try.prog 6 #[.string s] w (Gives (.bool true) w) := by
  obtain ⟨d, B, ⟨hl1, hl2⟩, k1, k2⟩ := gave_both s hs
  have HK1 := Lib.hid k1; have HK2 := Lib.hid k2
  have HLN := Lib.hid (And.intro hl1 hl2)
  clear k1 k2 hl1 hl2
  have g0 : ¬ (9000 : Int) < s.size := by omega
  clear hs
  go_enter Try.func6, Try.ntmps6
  go_wp2_with fail
  refine (HK1.out _).mono ?_
  rintro r w1 ⟨hb1, ao, ac, bo, bc, rfl, hs1, hs2⟩
  have HB1 : Hid (Below w.heap.size w w1) := Lib.hid hb1
  have HA := Lib.hid hs1; have HD := Lib.hid hs2
  clear hb1 hs1 hs2
  go_wp2_with fail
  refine (HK2.out _).mono ?_
  rintro r w2 ⟨hb2, xo, xc, yo, yc, rfl, hs1, hs2⟩
  have HO := Lib.hid hs1; have HN := Lib.hid hs2
  have hx2 : Ex w2 w1.heap.size (.slice ao d.add.length ac) (.slice bo d.drop.length bc) d.log d.seq d.next := kept_block (heap_alloc_new _ _) hb2
  have HX2 := Lib.hid hx2
  have HB2 : Hid (Below w.heap.size w w2) := Lib.hid (Below.next (Below.next_alloc HB1.out _) hb2)
  have HA2 : Hid (SeesTb w2 (.slice ao d.add.length ac) d.add) := Lib.hid (HA.out.below (Below.next ((Below.refl _ _).alloc (Nat.le_refl _) _) hb2))
  have HD2 : Hid (SeesU w2 (.slice bo d.drop.length bc) d.drop) := Lib.hid (HD.out.below (Below.next ((Below.refl _ _).alloc (Nat.le_refl _) _) hb2))
  clear hb2 hs1 hs2 hx2 HA HD
  go_wp2_with fail
  have hx3 : Ex (w2.alloc (.cells #[.slice xo d.add.length xc, .slice yo d.drop.length yc, .int .u64 (d.log : Nat), .int .u64 (d.seq : Nat), .int .u64 (d.next : Nat)] 38)) w1.heap.size (.slice ao d.add.length ac) (.slice bo d.drop.length bc) d.log d.seq d.next := kept_block HX2.out ((Below.refl _ _).alloc (Nat.le_refl _) _)
  have hy3 : Ey (w2.alloc (.cells #[.slice xo d.add.length xc, .slice yo d.drop.length yc, .int .u64 (d.log : Nat), .int .u64 (d.seq : Nat), .int .u64 (d.next : Nat)] 38)) w2.heap.size (.slice xo d.add.length xc) (.slice yo d.drop.length yc) d.log d.seq d.next := heap_alloc_new _ _
  have hk3 : Below w2.heap.size w2 (w2.alloc (.cells #[.slice xo d.add.length xc, .slice yo d.drop.length yc, .int .u64 (d.log : Nat), .int .u64 (d.seq : Nat), .int .u64 (d.next : Nat)] 38)) := (Below.refl _ _).alloc (Nat.le_refl _) _
  generalize w2.alloc (.cells #[.slice xo d.add.length xc, .slice yo d.drop.length yc, .int .u64 (d.log : Nat), .int .u64 (d.seq : Nat), .int .u64 (d.next : Nat)] 38) = W3 at *
  have HX3 := Lib.hid hx3; have HY3 := Lib.hid hy3
  have HS3 : Hid (RdX W3 w1.heap.size w2.heap.size (.slice ao d.add.length ac) (.slice bo d.drop.length bc) (.slice xo d.add.length xc) (.slice yo d.drop.length yc) d.log d.seq d.next) := Lib.hid (by
    obtain ⟨a0, a1, a2, a3, a4, -, -⟩ := hx3.of
    obtain ⟨e0, e1, e2, e3, e4, -, -⟩ := hy3.of
    exact ⟨a0, a1, a2, a3, a4, e0, e1, e2, e3, e4⟩)
  have HK : Hid (∀ v, Below W3.drew.heap.size W3.drew v → RdX v w1.heap.size w2.heap.size (.slice ao d.add.length ac) (.slice bo d.drop.length bc) (.slice xo d.add.length xc) (.slice yo d.drop.length yc) d.log d.seq d.next) := Lib.hid (fun v hb => by
    have hx : Ex v w1.heap.size (.slice ao d.add.length ac) (.slice bo d.drop.length bc) d.log d.seq d.next := kept_block (w := W3.drew) HX3.out hb
    have hy : Ey v w2.heap.size (.slice xo d.add.length xc) (.slice yo d.drop.length yc) d.log d.seq d.next := kept_block (w := W3.drew) HY3.out hb
    obtain ⟨a0, a1, a2, a3, a4, -, -⟩ := hx.of
    obtain ⟨e0, e1, e2, e3, e4, -, -⟩ := hy.of
    exact ⟨a0, a1, a2, a3, a4, e0, e1, e2, e3, e4⟩)
  have HB3 : Hid (Below w.heap.size w W3.drew) := Lib.hid (Below.next HB2.out hk3).drew
  have hkd : Below w2.heap.size w2 W3.drew := hk3.drew
  have HKD := Lib.hid hkd
  have HGV : Hid (∀ W, Calls Try.prog 16 #[(.agg #[.slice ao d.add.length ac, .slice bo d.drop.length bc, .int .u64 (d.log : Nat), .int .u64 (d.seq : Nat), .int .u64 (d.next : Nat)])] W (Gives (.agg #[.slice ao d.add.length ac, .slice bo d.drop.length bc, .int .u64 (d.log : Nat), .int .u64 (d.seq : Nat), .int .u64 (d.next : Nat)]) W)) := Lib.hid (fun W => given_any ao d.add.length ac bo d.drop.length bc d.log d.seq d.next W)
  have HSM : Hid (∀ W, Below W3.drew.heap.size W3.drew W → Calls Try.prog 15 #[(.agg #[.slice ao d.add.length ac, .slice bo d.drop.length bc, .int .u64 (d.log : Nat), .int .u64 (d.seq : Nat), .int .u64 (d.next : Nat)]), (.agg #[.slice xo d.add.length xc, .slice yo d.drop.length yc, .int .u64 (d.log : Nat), .int .u64 (d.seq : Nat), .int .u64 (d.next : Nat)])] W (Gives (.bool true) W)) := Lib.hid (fun W h => same_yes ao xo d.add.length ac xc bo yo d.drop.length bc yc d W (HA2.out.below (Below.next HKD.out h)) (HD2.out.below (Below.next HKD.out h)) (HO.out.below (Below.next HKD.out h)) (HN.out.below (Below.next HKD.out h)) (by have := HLN.out; omega) (by have := HLN.out; omega))
  have HAW : Hid (∀ W, Calls Try.prog 18 #[] W (Gives (.bool true) W)) := Lib.hid (fun W => awake_any W)
  obtain ⟨c0, c1, c2, c3, c4, -, -⟩ := hx3.of
  obtain ⟨d0, d1, d2, d3, d4, -, -⟩ := hy3.of
  clear hx3 hy3 hk3 hkd HX3 HY3 HX2 HB1 HB2 HK1 HK2 HA2 HD2 HO HN HLN
  cases B
  all_goals
    go_region_held3 (fun w' => RdX w' w1.heap.size w2.heap.size (.slice ao d.add.length ac) (.slice bo d.drop.length bc) (.slice xo d.add.length xc) (.slice yo d.drop.length yc) d.log d.seq d.next)
      (first
        | exact HS3.out
        | go_keep
        | exact HK.out _ (Below.next (Below.next hb6 hb7) hb8)
        | exact HK.out _ (Below.next hb6 hb7)
        | exact HK.out _ hb6)
      (first
        | (go_at_call 16; (with_reducible refine (HGV.out _).mono ?_); rintro r w6 ⟨rfl, hb6⟩)
        | (go_at_call 15; (with_reducible refine (HSM.out _ hb6).mono ?_); rintro r w7 ⟨rfl, hb7⟩)
        | (go_at_call 18; (with_reducible refine (HAW.out _).mono ?_); rintro r w8 ⟨rfl, hb8⟩))
    all_goals
      have HB8 : Hid (Below w.heap.size w w8) := Lib.hid (Below.next HB3.out (Below.next (Below.next hb6 hb7) hb8))
      clear hb6 hb7 hb8
      go_wp2_with fail
      go_ret
      exact ⟨rfl, HB8.out⟩

set_option maxHeartbeats 8000000 in
theorem reads_long (s : ByteArray) (w : World) (hs : 9000 < s.size) (hm : s.size ≤ 9223372036854775807) :
    Calls Try.prog 6 #[.string s] w (Gives (.bool true) w) := by
  have hcut : (s.extract 0 9000).size ≤ 9000 := by
    have e : (s.extract 0 9000).data.toList.length = (s.extract 0 9000).size := by simp
    have e2 : (s.extract 0 9000).data.toList = (s.data.toList.drop 0).take (9000 - 0) := Lib.extract_data ..
    rw [e2, List.length_take] at e
    omega
  obtain ⟨d, B, ⟨hl1, hl2⟩, k1, k2⟩ := gave_both (s.extract 0 9000) hcut
  have HK1 := Lib.hid k1; have HK2 := Lib.hid k2
  have HLN := Lib.hid (And.intro hl1 hl2)
  clear k1 k2 hl1 hl2
  have g0 : (9000 : Int) < s.size := by omega
  clear hs hcut
  go_enter Try.func6, Try.ntmps6
  go_wp2_with fail
  refine (HK1.out _).mono ?_
  rintro r w1 ⟨hb1, ao, ac, bo, bc, rfl, hs1, hs2⟩
  have HB1 : Hid (Below w.heap.size w w1) := Lib.hid hb1
  have HA := Lib.hid hs1; have HD := Lib.hid hs2
  clear hb1 hs1 hs2
  go_wp2_with fail
  refine (HK2.out _).mono ?_
  rintro r w2 ⟨hb2, xo, xc, yo, yc, rfl, hs1, hs2⟩
  have HO := Lib.hid hs1; have HN := Lib.hid hs2
  have hx2 : Ex w2 w1.heap.size (.slice ao d.add.length ac) (.slice bo d.drop.length bc) d.log d.seq d.next := kept_block (heap_alloc_new _ _) hb2
  have HX2 := Lib.hid hx2
  have HB2 : Hid (Below w.heap.size w w2) := Lib.hid (Below.next (Below.next_alloc HB1.out _) hb2)
  have HA2 : Hid (SeesTb w2 (.slice ao d.add.length ac) d.add) := Lib.hid (HA.out.below (Below.next ((Below.refl _ _).alloc (Nat.le_refl _) _) hb2))
  have HD2 : Hid (SeesU w2 (.slice bo d.drop.length bc) d.drop) := Lib.hid (HD.out.below (Below.next ((Below.refl _ _).alloc (Nat.le_refl _) _) hb2))
  clear hb2 hs1 hs2 hx2 HA HD
  go_wp2_with fail
  have hx3 : Ex (w2.alloc (.cells #[.slice xo d.add.length xc, .slice yo d.drop.length yc, .int .u64 (d.log : Nat), .int .u64 (d.seq : Nat), .int .u64 (d.next : Nat)] 38)) w1.heap.size (.slice ao d.add.length ac) (.slice bo d.drop.length bc) d.log d.seq d.next := kept_block HX2.out ((Below.refl _ _).alloc (Nat.le_refl _) _)
  have hy3 : Ey (w2.alloc (.cells #[.slice xo d.add.length xc, .slice yo d.drop.length yc, .int .u64 (d.log : Nat), .int .u64 (d.seq : Nat), .int .u64 (d.next : Nat)] 38)) w2.heap.size (.slice xo d.add.length xc) (.slice yo d.drop.length yc) d.log d.seq d.next := heap_alloc_new _ _
  have hk3 : Below w2.heap.size w2 (w2.alloc (.cells #[.slice xo d.add.length xc, .slice yo d.drop.length yc, .int .u64 (d.log : Nat), .int .u64 (d.seq : Nat), .int .u64 (d.next : Nat)] 38)) := (Below.refl _ _).alloc (Nat.le_refl _) _
  generalize w2.alloc (.cells #[.slice xo d.add.length xc, .slice yo d.drop.length yc, .int .u64 (d.log : Nat), .int .u64 (d.seq : Nat), .int .u64 (d.next : Nat)] 38) = W3 at *
  have HX3 := Lib.hid hx3; have HY3 := Lib.hid hy3
  have HS3 : Hid (RdX W3 w1.heap.size w2.heap.size (.slice ao d.add.length ac) (.slice bo d.drop.length bc) (.slice xo d.add.length xc) (.slice yo d.drop.length yc) d.log d.seq d.next) := Lib.hid (by
    obtain ⟨a0, a1, a2, a3, a4, -, -⟩ := hx3.of
    obtain ⟨e0, e1, e2, e3, e4, -, -⟩ := hy3.of
    exact ⟨a0, a1, a2, a3, a4, e0, e1, e2, e3, e4⟩)
  have HK : Hid (∀ v, Below W3.drew.heap.size W3.drew v → RdX v w1.heap.size w2.heap.size (.slice ao d.add.length ac) (.slice bo d.drop.length bc) (.slice xo d.add.length xc) (.slice yo d.drop.length yc) d.log d.seq d.next) := Lib.hid (fun v hb => by
    have hx : Ex v w1.heap.size (.slice ao d.add.length ac) (.slice bo d.drop.length bc) d.log d.seq d.next := kept_block (w := W3.drew) HX3.out hb
    have hy : Ey v w2.heap.size (.slice xo d.add.length xc) (.slice yo d.drop.length yc) d.log d.seq d.next := kept_block (w := W3.drew) HY3.out hb
    obtain ⟨a0, a1, a2, a3, a4, -, -⟩ := hx.of
    obtain ⟨e0, e1, e2, e3, e4, -, -⟩ := hy.of
    exact ⟨a0, a1, a2, a3, a4, e0, e1, e2, e3, e4⟩)
  have HB3 : Hid (Below w.heap.size w W3.drew) := Lib.hid (Below.next HB2.out hk3).drew
  have hkd : Below w2.heap.size w2 W3.drew := hk3.drew
  have HKD := Lib.hid hkd
  have HGV : Hid (∀ W, Calls Try.prog 16 #[(.agg #[.slice ao d.add.length ac, .slice bo d.drop.length bc, .int .u64 (d.log : Nat), .int .u64 (d.seq : Nat), .int .u64 (d.next : Nat)])] W (Gives (.agg #[.slice ao d.add.length ac, .slice bo d.drop.length bc, .int .u64 (d.log : Nat), .int .u64 (d.seq : Nat), .int .u64 (d.next : Nat)]) W)) := Lib.hid (fun W => given_any ao d.add.length ac bo d.drop.length bc d.log d.seq d.next W)
  have HSM : Hid (∀ W, Below W3.drew.heap.size W3.drew W → Calls Try.prog 15 #[(.agg #[.slice ao d.add.length ac, .slice bo d.drop.length bc, .int .u64 (d.log : Nat), .int .u64 (d.seq : Nat), .int .u64 (d.next : Nat)]), (.agg #[.slice xo d.add.length xc, .slice yo d.drop.length yc, .int .u64 (d.log : Nat), .int .u64 (d.seq : Nat), .int .u64 (d.next : Nat)])] W (Gives (.bool true) W)) := Lib.hid (fun W h => same_yes ao xo d.add.length ac xc bo yo d.drop.length bc yc d W (HA2.out.below (Below.next HKD.out h)) (HD2.out.below (Below.next HKD.out h)) (HO.out.below (Below.next HKD.out h)) (HN.out.below (Below.next HKD.out h)) (by have := HLN.out; omega) (by have := HLN.out; omega))
  have HAW : Hid (∀ W, Calls Try.prog 18 #[] W (Gives (.bool true) W)) := Lib.hid (fun W => awake_any W)
  obtain ⟨c0, c1, c2, c3, c4, -, -⟩ := hx3.of
  obtain ⟨d0, d1, d2, d3, d4, -, -⟩ := hy3.of
  clear hx3 hy3 hk3 hkd HX3 HY3 HX2 HB1 HB2 HK1 HK2 HA2 HD2 HO HN HLN
  cases B
  all_goals
    go_region_held3 (fun w' => RdX w' w1.heap.size w2.heap.size (.slice ao d.add.length ac) (.slice bo d.drop.length bc) (.slice xo d.add.length xc) (.slice yo d.drop.length yc) d.log d.seq d.next)
      (first
        | exact HS3.out
        | go_keep
        | exact HK.out _ (Below.next (Below.next hb6 hb7) hb8)
        | exact HK.out _ (Below.next hb6 hb7)
        | exact HK.out _ hb6)
      (first
        | (go_at_call 16; (with_reducible refine (HGV.out _).mono ?_); rintro r w6 ⟨rfl, hb6⟩)
        | (go_at_call 15; (with_reducible refine (HSM.out _ hb6).mono ?_); rintro r w7 ⟨rfl, hb7⟩)
        | (go_at_call 18; (with_reducible refine (HAW.out _).mono ?_); rintro r w8 ⟨rfl, hb8⟩))
    all_goals
      have HB8 : Hid (Below w.heap.size w w8) := Lib.hid (Below.next HB3.out (Below.next (Below.next hb6 hb7) hb8))
      clear hb6 hb7 hb8
      go_wp2_with fail
      go_ret
      exact ⟨rfl, HB8.out⟩

theorem reads_walk (s : ByteArray) (w : World) (hm : s.size ≤ 9223372036854775807) :
    Calls Try.prog 6 #[.string s] w (Gives (.bool true) w) := by
  by_cases h : 9000 < s.size
  · exact reads_long s w h hm
  · exact reads_short s w (by omega)

end Go.Proofs.Ytlhokfildhcdhaa
