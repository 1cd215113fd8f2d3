/- The walk of BlockOpens. -/
import Derived.Test.YtjpmcphfiiiecaaBoU
namespace Go.Proofs.Ytjpmcphfiiiecaa.Bo
open Go Go.RowKit
set_option linter.unusedVariables false

/-- The document opens what the code opens. -/
theorem refOpen_any (s : ByteArray) (w : World) (hs : s.size ≤ 1000000) :
    Calls Try.prog 21 #[.string s] w (RefOpened (opn s.data.toList) w) := by
  rw [← opnR_eq _ (by rw [len]; omega)]
  by_cases h4 : s.size < 4
  · exact refOpen_short s w h4
  · exact refOpen_long s w hs (by omega)

set_option maxHeartbeats 4000000 in
set_option maxRecDepth 100000 in
theorem opens_a (T K : ByteArray) (w : World) (hs : ¬ (8000 : Int) < T.size) (hk : ¬ (2000 : Int) < K.size) :
    Calls Try.prog 5 #[.string T, .string K] w (Gives (.bool true) w) := by
  have HOP := Lib.hid (open_any T w (by omega))
  have HRO := Lib.hid (fun W => refOpen_any T W (by omega))
  cases ho : opn T.data.toList with
  | none =>
    rw [ho] at HOP HRO
    go_enter Try.func5, Try.ntmps5
    go_wp2_with fail
    refine HOP.out.mono ?_
    rintro e w1 ⟨hb1, he⟩
    dsimp only at he
    subst he
    have HB1 := Lib.hid hb1; clear hb1
    go_wp2_with fail
    refine (HRO.out _).mono ?_
    rintro e w2 ⟨hb2, hr⟩
    have HB2 := Lib.hid (HB1.out.trans (hb2.mono HB1.out.size)); clear hb2
    rcases hr with ⟨-, v, rfl⟩ | ⟨l, a, c, b0, hl, -, -⟩
    · go_wp2_with fail
      refine (awake_any _).mono ?_
      rintro e w3 ⟨rfl, hb3⟩
      go_wp2_with fail
      go_ret
      exact ⟨rfl, HB2.out.trans (hb3.mono HB2.out.size)⟩
    · cases hl
  | some l =>
    rw [ho] at HOP HRO
    obtain ⟨hgood, hbytes⟩ := opn_some ho
    have hll : l.length ≤ 8000 := by
      have h1 := fin_length (run st0 l)
      have h2 := run_rows l st0
      have h3 := rows_least l st0
      rw [show st0.rows = [] from rfl, List.nil_append] at h2
      rw [h2] at h1
      have h4 : (fin (run st0 l)).length = T.size := by rw [← len, ← hbytes]; rfl
      omega
    have HGOOD := Lib.hid hgood
    clear ho hgood hbytes
    go_enter Try.func5, Try.ntmps5
    go_wp2_with fail
    refine HOP.out.mono ?_
    rintro e w1 ⟨hb1, p, v, rs, rfl, hblk, hrs, -⟩
    have HB1 := Lib.hid hb1; have HBK := Lib.hid hblk; have HRS := Lib.hid hrs
    clear hb1 hblk hrs HOP
    go_wp2_with fail
    refine (HRO.out _).mono ?_
    rintro e w2 ⟨hb2, hr⟩
    have HB2 := Lib.hid (HB1.out.trans (hb2.mono HB1.out.size))
    have HBK2 := Lib.hid (HBK.out.below hb2)
    clear hb2 HBK HB1
    rcases hr with ⟨hl, -⟩ | ⟨l2, a, c, b0, hl, rfl, hown⟩
    · cases hl
    · simp only [Option.some.injEq] at hl
      subst hl
      have HVS : Hid (∀ x ∈ rs, x.2.val.size ≤ 1000000000) := Lib.hid (fun x hx => by
        have h1 : x.2 ∈ l := by rw [← HRS.out]; exact List.mem_map_of_mem (f := Prod.snd) hx
        have := (good_sizes l st0 HGOOD.out x.2 h1).2
        omega)
      have HSM := Lib.hid (same_yes HBK2.out HVS.out a l.length c l hown.sees rfl HRS.out (by omega))
      have hrl : rs.length ≤ 1000000 := by
        have : rs.length = l.length := by rw [← HRS.out, List.length_map]
        omega
      have HSK : Hid (∀ W, Below w2.heap.size w2 W → Calls Try.prog 16 #[.pointer (some ⟨p, 0, none⟩), .string K] W (Gives (.int .i64 (seekN l K : Int)) W)) := Lib.hid (fun W hb => by
        have := seek_any (HBK2.out.below hb) K hrl (by rw [HRS.out]; exact (good_asc l st0 HGOOD.out).2)
        rw [HRS.out] at this
        exact this)
      have HRK : Hid (∀ W, Below w2.heap.size w2 W → Calls Try.prog 23 #[.slice a l.length c, .string K] W fun e w' => e = .returned (.int .i64 (seekN l K : Int)) ∧ W = w') := Lib.hid (fun W hb => refSeek_any a l.length c l K W (hown.below hb).sees rfl (by omega))
      have HOWN := Lib.hid hown
      clear hown hrl HRO
      generalize seekN l K = z at *
      go_wp2_with fail
      refine HSM.out.mono ?_
      rintro e w3 ⟨rfl, hb3⟩
      have HB3 := Lib.hid hb3
      have HSK3 := Lib.hid (HSK.out w3 hb3)
      clear hb3 HSM
      go_wp2_with fail
      refine HSK3.out.mono ?_
      rintro e w4 ⟨rfl, hb4⟩
      have HB4 := Lib.hid (HB3.out.trans (hb4.mono HB3.out.size))
      have HRK4 := Lib.hid (HRK.out w4 HB4.out)
      clear hb4 HSK3
      go_wp2_with fail
      refine HRK4.out.mono ?_
      rintro e w5 ⟨rfl, rfl⟩
      clear HRK4
      go_wp2_with fail
      refine (awake_any _).mono ?_
      rintro e w6 ⟨rfl, hb6⟩
      have HB6 : Hid (Below w.heap.size w w6) := Lib.hid (by
        have h4 := HB2.out.trans (HB4.out.mono HB2.out.size)
        exact h4.trans (hb6.mono h4.size))
      clear hb6
      go_wp2_with fail
      go_ret
      exact ⟨rfl, HB6.out⟩

set_option maxHeartbeats 4000000 in
set_option maxRecDepth 100000 in
theorem opens_b (S0 K : ByteArray) (w : World) (hs : (8000 : Int) < S0.size) (hk : ¬ (2000 : Int) < K.size) :
    Calls Try.prog 5 #[.string S0, .string K] w (Gives (.bool true) w) := by
  obtain ⟨T, hT⟩ : ∃ T : ByteArray, T = S0.extract 0 8000 := ⟨_, rfl⟩
  have hcut : S0.extract 0 8000 = T := hT.symm
  have hsz : T.size ≤ 8000 := by rw [hT, ByteArray.size_extract]; omega
  have hle : (8000 : Int) ≤ S0.size := by omega
  clear hT
  have HOP := Lib.hid (open_any T w (by omega))
  have HRO := Lib.hid (fun W => refOpen_any T W (by omega))
  cases ho : opn T.data.toList with
  | none =>
    rw [ho] at HOP HRO
    go_enter Try.func5, Try.ntmps5
    go_wp2_with fail
    refine HOP.out.mono ?_
    rintro e w1 ⟨hb1, he⟩
    dsimp only at he
    subst he
    have HB1 := Lib.hid hb1; clear hb1
    go_wp2_with fail
    refine (HRO.out _).mono ?_
    rintro e w2 ⟨hb2, hr⟩
    have HB2 := Lib.hid (HB1.out.trans (hb2.mono HB1.out.size)); clear hb2
    rcases hr with ⟨-, v, rfl⟩ | ⟨l, a, c, b0, hl, -, -⟩
    · go_wp2_with fail
      refine (awake_any _).mono ?_
      rintro e w3 ⟨rfl, hb3⟩
      go_wp2_with fail
      go_ret
      exact ⟨rfl, HB2.out.trans (hb3.mono HB2.out.size)⟩
    · cases hl
  | some l =>
    rw [ho] at HOP HRO
    obtain ⟨hgood, hbytes⟩ := opn_some ho
    have hll : l.length ≤ 8000 := by
      have h1 := fin_length (run st0 l)
      have h2 := run_rows l st0
      have h3 := rows_least l st0
      rw [show st0.rows = [] from rfl, List.nil_append] at h2
      rw [h2] at h1
      have h4 : (fin (run st0 l)).length = T.size := by rw [← len, ← hbytes]; rfl
      omega
    have HGOOD := Lib.hid hgood
    clear ho hgood hbytes
    go_enter Try.func5, Try.ntmps5
    go_wp2_with fail
    refine HOP.out.mono ?_
    rintro e w1 ⟨hb1, p, v, rs, rfl, hblk, hrs, -⟩
    have HB1 := Lib.hid hb1; have HBK := Lib.hid hblk; have HRS := Lib.hid hrs
    clear hb1 hblk hrs HOP
    go_wp2_with fail
    refine (HRO.out _).mono ?_
    rintro e w2 ⟨hb2, hr⟩
    have HB2 := Lib.hid (HB1.out.trans (hb2.mono HB1.out.size))
    have HBK2 := Lib.hid (HBK.out.below hb2)
    clear hb2 HBK HB1
    rcases hr with ⟨hl, -⟩ | ⟨l2, a, c, b0, hl, rfl, hown⟩
    · cases hl
    · simp only [Option.some.injEq] at hl
      subst hl
      have HVS : Hid (∀ x ∈ rs, x.2.val.size ≤ 1000000000) := Lib.hid (fun x hx => by
        have h1 : x.2 ∈ l := by rw [← HRS.out]; exact List.mem_map_of_mem (f := Prod.snd) hx
        have := (good_sizes l st0 HGOOD.out x.2 h1).2
        omega)
      have HSM := Lib.hid (same_yes HBK2.out HVS.out a l.length c l hown.sees rfl HRS.out (by omega))
      have hrl : rs.length ≤ 1000000 := by
        have : rs.length = l.length := by rw [← HRS.out, List.length_map]
        omega
      have HSK : Hid (∀ W, Below w2.heap.size w2 W → Calls Try.prog 16 #[.pointer (some ⟨p, 0, none⟩), .string K] W (Gives (.int .i64 (seekN l K : Int)) W)) := Lib.hid (fun W hb => by
        have := seek_any (HBK2.out.below hb) K hrl (by rw [HRS.out]; exact (good_asc l st0 HGOOD.out).2)
        rw [HRS.out] at this
        exact this)
      have HRK : Hid (∀ W, Below w2.heap.size w2 W → Calls Try.prog 23 #[.slice a l.length c, .string K] W fun e w' => e = .returned (.int .i64 (seekN l K : Int)) ∧ W = w') := Lib.hid (fun W hb => refSeek_any a l.length c l K W (hown.below hb).sees rfl (by omega))
      have HOWN := Lib.hid hown
      clear hown hrl HRO
      generalize seekN l K = z at *
      go_wp2_with fail
      refine HSM.out.mono ?_
      rintro e w3 ⟨rfl, hb3⟩
      have HB3 := Lib.hid hb3
      have HSK3 := Lib.hid (HSK.out w3 hb3)
      clear hb3 HSM
      go_wp2_with fail
      refine HSK3.out.mono ?_
      rintro e w4 ⟨rfl, hb4⟩
      have HB4 := Lib.hid (HB3.out.trans (hb4.mono HB3.out.size))
      have HRK4 := Lib.hid (HRK.out w4 HB4.out)
      clear hb4 HSK3
      go_wp2_with fail
      refine HRK4.out.mono ?_
      rintro e w5 ⟨rfl, rfl⟩
      clear HRK4
      go_wp2_with fail
      refine (awake_any _).mono ?_
      rintro e w6 ⟨rfl, hb6⟩
      have HB6 : Hid (Below w.heap.size w w6) := Lib.hid (by
        have h4 := HB2.out.trans (HB4.out.mono HB2.out.size)
        exact h4.trans (hb6.mono h4.size))
      clear hb6
      go_wp2_with fail
      go_ret
      exact ⟨rfl, HB6.out⟩

set_option maxHeartbeats 4000000 in
set_option maxRecDepth 100000 in
theorem opens_c (T K0 : ByteArray) (w : World) (hs : ¬ (8000 : Int) < T.size) (hk : (2000 : Int) < K0.size) :
    Calls Try.prog 5 #[.string T, .string K0] w (Gives (.bool true) w) := by
  obtain ⟨K, hK⟩ : ∃ K : ByteArray, K = K0.extract 0 2000 := ⟨_, rfl⟩
  have hcutk : K0.extract 0 2000 = K := hK.symm
  have hlek : (2000 : Int) ≤ K0.size := by omega
  clear hK
  have HOP := Lib.hid (open_any T w (by omega))
  have HRO := Lib.hid (fun W => refOpen_any T W (by omega))
  cases ho : opn T.data.toList with
  | none =>
    rw [ho] at HOP HRO
    go_enter Try.func5, Try.ntmps5
    go_wp2_with fail
    refine HOP.out.mono ?_
    rintro e w1 ⟨hb1, he⟩
    dsimp only at he
    subst he
    have HB1 := Lib.hid hb1; clear hb1
    go_wp2_with fail
    refine (HRO.out _).mono ?_
    rintro e w2 ⟨hb2, hr⟩
    have HB2 := Lib.hid (HB1.out.trans (hb2.mono HB1.out.size)); clear hb2
    rcases hr with ⟨-, v, rfl⟩ | ⟨l, a, c, b0, hl, -, -⟩
    · go_wp2_with fail
      refine (awake_any _).mono ?_
      rintro e w3 ⟨rfl, hb3⟩
      go_wp2_with fail
      go_ret
      exact ⟨rfl, HB2.out.trans (hb3.mono HB2.out.size)⟩
    · cases hl
  | some l =>
    rw [ho] at HOP HRO
    obtain ⟨hgood, hbytes⟩ := opn_some ho
    have hll : l.length ≤ 8000 := by
      have h1 := fin_length (run st0 l)
      have h2 := run_rows l st0
      have h3 := rows_least l st0
      rw [show st0.rows = [] from rfl, List.nil_append] at h2
      rw [h2] at h1
      have h4 : (fin (run st0 l)).length = T.size := by rw [← len, ← hbytes]; rfl
      omega
    have HGOOD := Lib.hid hgood
    clear ho hgood hbytes
    go_enter Try.func5, Try.ntmps5
    go_wp2_with fail
    refine HOP.out.mono ?_
    rintro e w1 ⟨hb1, p, v, rs, rfl, hblk, hrs, -⟩
    have HB1 := Lib.hid hb1; have HBK := Lib.hid hblk; have HRS := Lib.hid hrs
    clear hb1 hblk hrs HOP
    go_wp2_with fail
    refine (HRO.out _).mono ?_
    rintro e w2 ⟨hb2, hr⟩
    have HB2 := Lib.hid (HB1.out.trans (hb2.mono HB1.out.size))
    have HBK2 := Lib.hid (HBK.out.below hb2)
    clear hb2 HBK HB1
    rcases hr with ⟨hl, -⟩ | ⟨l2, a, c, b0, hl, rfl, hown⟩
    · cases hl
    · simp only [Option.some.injEq] at hl
      subst hl
      have HVS : Hid (∀ x ∈ rs, x.2.val.size ≤ 1000000000) := Lib.hid (fun x hx => by
        have h1 : x.2 ∈ l := by rw [← HRS.out]; exact List.mem_map_of_mem (f := Prod.snd) hx
        have := (good_sizes l st0 HGOOD.out x.2 h1).2
        omega)
      have HSM := Lib.hid (same_yes HBK2.out HVS.out a l.length c l hown.sees rfl HRS.out (by omega))
      have hrl : rs.length ≤ 1000000 := by
        have : rs.length = l.length := by rw [← HRS.out, List.length_map]
        omega
      have HSK : Hid (∀ W, Below w2.heap.size w2 W → Calls Try.prog 16 #[.pointer (some ⟨p, 0, none⟩), .string K] W (Gives (.int .i64 (seekN l K : Int)) W)) := Lib.hid (fun W hb => by
        have := seek_any (HBK2.out.below hb) K hrl (by rw [HRS.out]; exact (good_asc l st0 HGOOD.out).2)
        rw [HRS.out] at this
        exact this)
      have HRK : Hid (∀ W, Below w2.heap.size w2 W → Calls Try.prog 23 #[.slice a l.length c, .string K] W fun e w' => e = .returned (.int .i64 (seekN l K : Int)) ∧ W = w') := Lib.hid (fun W hb => refSeek_any a l.length c l K W (hown.below hb).sees rfl (by omega))
      have HOWN := Lib.hid hown
      clear hown hrl HRO
      generalize seekN l K = z at *
      go_wp2_with fail
      refine HSM.out.mono ?_
      rintro e w3 ⟨rfl, hb3⟩
      have HB3 := Lib.hid hb3
      have HSK3 := Lib.hid (HSK.out w3 hb3)
      clear hb3 HSM
      go_wp2_with fail
      refine HSK3.out.mono ?_
      rintro e w4 ⟨rfl, hb4⟩
      have HB4 := Lib.hid (HB3.out.trans (hb4.mono HB3.out.size))
      have HRK4 := Lib.hid (HRK.out w4 HB4.out)
      clear hb4 HSK3
      go_wp2_with fail
      refine HRK4.out.mono ?_
      rintro e w5 ⟨rfl, rfl⟩
      clear HRK4
      go_wp2_with fail
      refine (awake_any _).mono ?_
      rintro e w6 ⟨rfl, hb6⟩
      have HB6 : Hid (Below w.heap.size w w6) := Lib.hid (by
        have h4 := HB2.out.trans (HB4.out.mono HB2.out.size)
        exact h4.trans (hb6.mono h4.size))
      clear hb6
      go_wp2_with fail
      go_ret
      exact ⟨rfl, HB6.out⟩

set_option maxHeartbeats 4000000 in
set_option maxRecDepth 100000 in
theorem opens_d (S0 K0 : ByteArray) (w : World) (hs : (8000 : Int) < S0.size) (hk : (2000 : Int) < K0.size) :
    Calls Try.prog 5 #[.string S0, .string K0] w (Gives (.bool true) w) := by
  obtain ⟨T, hT⟩ : ∃ T : ByteArray, T = S0.extract 0 8000 := ⟨_, rfl⟩
  have hcut : S0.extract 0 8000 = T := hT.symm
  have hsz : T.size ≤ 8000 := by rw [hT, ByteArray.size_extract]; omega
  have hle : (8000 : Int) ≤ S0.size := by omega
  clear hT
  obtain ⟨K, hK⟩ : ∃ K : ByteArray, K = K0.extract 0 2000 := ⟨_, rfl⟩
  have hcutk : K0.extract 0 2000 = K := hK.symm
  have hlek : (2000 : Int) ≤ K0.size := by omega
  clear hK
  have HOP := Lib.hid (open_any T w (by omega))
  have HRO := Lib.hid (fun W => refOpen_any T W (by omega))
  cases ho : opn T.data.toList with
  | none =>
    rw [ho] at HOP HRO
    go_enter Try.func5, Try.ntmps5
    go_wp2_with fail
    refine HOP.out.mono ?_
    rintro e w1 ⟨hb1, he⟩
    dsimp only at he
    subst he
    have HB1 := Lib.hid hb1; clear hb1
    go_wp2_with fail
    refine (HRO.out _).mono ?_
    rintro e w2 ⟨hb2, hr⟩
    have HB2 := Lib.hid (HB1.out.trans (hb2.mono HB1.out.size)); clear hb2
    rcases hr with ⟨-, v, rfl⟩ | ⟨l, a, c, b0, hl, -, -⟩
    · go_wp2_with fail
      refine (awake_any _).mono ?_
      rintro e w3 ⟨rfl, hb3⟩
      go_wp2_with fail
      go_ret
      exact ⟨rfl, HB2.out.trans (hb3.mono HB2.out.size)⟩
    · cases hl
  | some l =>
    rw [ho] at HOP HRO
    obtain ⟨hgood, hbytes⟩ := opn_some ho
    have hll : l.length ≤ 8000 := by
      have h1 := fin_length (run st0 l)
      have h2 := run_rows l st0
      have h3 := rows_least l st0
      rw [show st0.rows = [] from rfl, List.nil_append] at h2
      rw [h2] at h1
      have h4 : (fin (run st0 l)).length = T.size := by rw [← len, ← hbytes]; rfl
      omega
    have HGOOD := Lib.hid hgood
    clear ho hgood hbytes
    go_enter Try.func5, Try.ntmps5
    go_wp2_with fail
    refine HOP.out.mono ?_
    rintro e w1 ⟨hb1, p, v, rs, rfl, hblk, hrs, -⟩
    have HB1 := Lib.hid hb1; have HBK := Lib.hid hblk; have HRS := Lib.hid hrs
    clear hb1 hblk hrs HOP
    go_wp2_with fail
    refine (HRO.out _).mono ?_
    rintro e w2 ⟨hb2, hr⟩
    have HB2 := Lib.hid (HB1.out.trans (hb2.mono HB1.out.size))
    have HBK2 := Lib.hid (HBK.out.below hb2)
    clear hb2 HBK HB1
    rcases hr with ⟨hl, -⟩ | ⟨l2, a, c, b0, hl, rfl, hown⟩
    · cases hl
    · simp only [Option.some.injEq] at hl
      subst hl
      have HVS : Hid (∀ x ∈ rs, x.2.val.size ≤ 1000000000) := Lib.hid (fun x hx => by
        have h1 : x.2 ∈ l := by rw [← HRS.out]; exact List.mem_map_of_mem (f := Prod.snd) hx
        have := (good_sizes l st0 HGOOD.out x.2 h1).2
        omega)
      have HSM := Lib.hid (same_yes HBK2.out HVS.out a l.length c l hown.sees rfl HRS.out (by omega))
      have hrl : rs.length ≤ 1000000 := by
        have : rs.length = l.length := by rw [← HRS.out, List.length_map]
        omega
      have HSK : Hid (∀ W, Below w2.heap.size w2 W → Calls Try.prog 16 #[.pointer (some ⟨p, 0, none⟩), .string K] W (Gives (.int .i64 (seekN l K : Int)) W)) := Lib.hid (fun W hb => by
        have := seek_any (HBK2.out.below hb) K hrl (by rw [HRS.out]; exact (good_asc l st0 HGOOD.out).2)
        rw [HRS.out] at this
        exact this)
      have HRK : Hid (∀ W, Below w2.heap.size w2 W → Calls Try.prog 23 #[.slice a l.length c, .string K] W fun e w' => e = .returned (.int .i64 (seekN l K : Int)) ∧ W = w') := Lib.hid (fun W hb => refSeek_any a l.length c l K W (hown.below hb).sees rfl (by omega))
      have HOWN := Lib.hid hown
      clear hown hrl HRO
      generalize seekN l K = z at *
      go_wp2_with fail
      refine HSM.out.mono ?_
      rintro e w3 ⟨rfl, hb3⟩
      have HB3 := Lib.hid hb3
      have HSK3 := Lib.hid (HSK.out w3 hb3)
      clear hb3 HSM
      go_wp2_with fail
      refine HSK3.out.mono ?_
      rintro e w4 ⟨rfl, hb4⟩
      have HB4 := Lib.hid (HB3.out.trans (hb4.mono HB3.out.size))
      have HRK4 := Lib.hid (HRK.out w4 HB4.out)
      clear hb4 HSK3
      go_wp2_with fail
      refine HRK4.out.mono ?_
      rintro e w5 ⟨rfl, rfl⟩
      clear HRK4
      go_wp2_with fail
      refine (awake_any _).mono ?_
      rintro e w6 ⟨rfl, hb6⟩
      have HB6 : Hid (Below w.heap.size w w6) := Lib.hid (by
        have h4 := HB2.out.trans (HB4.out.mono HB2.out.size)
        exact h4.trans (hb6.mono h4.size))
      clear hb6
      go_wp2_with fail
      go_ret
      exact ⟨rfl, HB6.out⟩

theorem opens_walk (s key : ByteArray) (w : World) (hs : s.size ≤ 9223372036854775807) (hk : key.size ≤ 9223372036854775807) :
    Calls Try.prog 5 #[.string s, .string key] w (Gives (.bool true) w) := by
  by_cases h : (8000 : Int) < s.size
  · by_cases h2 : (2000 : Int) < key.size
    · exact opens_d s key w h h2
    · exact opens_b s key w h h2
  · by_cases h2 : (2000 : Int) < key.size
    · exact opens_c s key w h h2
    · exact opens_a s key w h h2
end Go.Proofs.Ytjpmcphfiiiecaa.Bo
