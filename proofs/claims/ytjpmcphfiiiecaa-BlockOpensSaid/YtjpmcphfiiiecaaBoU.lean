/- The walk of the document's Open of layer 11. -/
import Derived.Test.YtjpmcphfiiiecaaBlockBuilds
namespace Go.Proofs.Ytjpmcphfiiiecaa.Bo
open Go Go.RowKit
set_option linter.unusedVariables false

/-- What the document opens. -/
def RefOpened (o : Option (List En)) (w : World) (e : Ending) (w' : World) : Prop :=
  Below w.heap.size w w' ∧ ((o = none ∧ ∃ v, e = .returned (.tuple #[v, .bool false])) ∨ ∃ l a c b0, o = some l ∧ e = .returned (.tuple #[.slice a l.length c, .bool true]) ∧ OwnsN w' b0 (.slice a l.length c) l)
def contR (s : List UInt8) (l : List En) : Option (List En) → Option (List En)
  | none => none
  | some l' => if bytes (l ++ l') = s then some (l ++ l') else none
theorem contR_end (s : List UInt8) (l : List En) (p : St) (x : List UInt8) : contR s l (rdsR 0 p x) = if bytes l = s then some l else none := by simp [rdsR, contR]
theorem contR_none (s : List UInt8) (l : List En) (n : Nat) (p : St) (x : List UInt8) (h : rdE x p.last.data.toList = none) : contR s l (rdsR (n + 1) p x) = none := by rw [rdsR, h]; rfl
theorem contR_bad (s : List UInt8) (l : List En) (n k : Nat) (p : St) (x : List UInt8) (e : En) (h : rdE x p.last.data.toList = some (e, k)) (he : err p e ≠ 0) : contR s l (rdsR (n + 1) p x) = none := by rw [rdsR, h]; simp only; rw [if_neg he]; rfl
theorem contR_some (s : List UInt8) (l : List En) (n k : Nat) (p : St) (x : List UInt8) (e : En) (h : rdE x p.last.data.toList = some (e, k)) (he : err p e = 0) : contR s l (rdsR (n + 1) p x) = contR s (l ++ [e]) (rdsR n (step p e) (x.drop k)) := by
  rw [rdsR, h]
  simp only
  rw [if_pos he]
  cases rdsR n (step p e) (x.drop k) with
  | none => rfl
  | some l' => simp [contR]

/-- The last four bytes, as a number. -/
theorem refCount (s : ByteArray) (w : World) (hs : s.size ≤ 1000000000) (h4 : 4 ≤ s.size) :
    Calls Try.prog 38 #[.string (s.extract (s.size - 4) s.size), .int .i64 4] w fun e w' => e = .returned (.tuple #[.int .u64 (Nm.val (s.data.toList.drop (s.size - 4)) : Nat), .bool true]) ∧ w = w' := by
  have hz : (s.extract (s.size - 4) s.size).size = 4 := by rw [ByteArray.size_extract]; omega
  have := refReadBig_yes (s.extract (s.size - 4) s.size) 4 w (by omega) (by omega) (by rw [hz]; omega) (by rw [hz]; omega)
  have e : (s.extract (s.size - 4) s.size).data.toList.take (4 : Int).toNat = s.data.toList.drop (s.size - 4) := by
    rw [Lib.extract_to_end]
    exact List.take_of_length_le (by rw [List.length_drop, len]; show s.size - (s.size - 4) ≤ 4; omega)
  rw [e] at this
  exact this

set_option maxHeartbeats 1000000 in
theorem refOpen_short (s : ByteArray) (w : World) (h4 : s.size < 4) :
    Calls Try.prog 21 #[.string s] w (RefOpened (opnR s.data.toList) w) := by
  have HE : Hid (opnR s.data.toList = none) := Lib.hid (by unfold opnR; rw [if_pos (by rw [len]; exact h4)])
  rw [HE.out]
  have hmin : min (4 : Int) (s.size : Int) = s.size := by omega
  have hsub : (s.size : Int) - s.size = 0 := by omega
  have HLE := Lib.hid (fun W => least_any 4 (s.size : Int) W)
  rw [hmin] at HLE
  have HNO := Lib.hid (fun W => refReadBig_no s 4 W (by omega) (by omega))
  go_enter Try.func21, Try.ntmps21
  go_wp2_with fail
  refine (HLE.out _).mono ?_
  rintro e w1 ⟨rfl, rfl⟩
  go_wp2_with fail
  refine (HNO.out _).mono ?_
  rintro e w1 ⟨rfl, rfl⟩
  go_wp2_with fail
  go_ret2
  exact ⟨Below.refl _ _, Or.inl ⟨rfl, _, rfl⟩⟩

set_option maxHeartbeats 8000000 in
set_option maxRecDepth 100000 in
theorem refOpen_long (s : ByteArray) (w : World) (hs : s.size ≤ 1000000) (h4 : 4 ≤ s.size) :
    Calls Try.prog 21 #[.string s] w (RefOpened (opnR s.data.toList) w) := by
  obtain ⟨d, hd⟩ : ∃ d, d = s.size - 4 := ⟨_, rfl⟩
  have hmin : min (4 : Int) (s.size : Int) = 4 := by omega
  have hsub : (s.size : Int) - 4 = d := by omega
  have hd1 : (d : Int) ≤ s.size := by omega
  have HLE := Lib.hid (fun W => least_any 4 (s.size : Int) W)
  rw [hmin] at HLE
  obtain ⟨N, hN⟩ : ∃ N, N = Nm.val (s.data.toList.drop d) := ⟨_, rfl⟩
  have HRB := Lib.hid (fun W => refCount s W (by omega) h4)
  rw [← hd, ← hN] at HRB
  have hwr : IntKind.u64.wrap (s.size : Int) = s.size := by rw [IntKind.wrap_u64]; omega
  have HO : Hid (opnR s.data.toList = if s.size < N then none else contR s.data.toList [] (rdsR N st0 s.data.toList)) := Lib.hid (by
    unfold opnR
    rw [len, if_neg (by omega), ← hd, ← hN]
    split
    · rfl
    · cases rdsR N st0 s.data.toList with
      | none => rfl
      | some l => simp [contR])
  clear hmin hN hd
  by_cases hlt : s.size < N
  · rw [HO.out, if_pos hlt]
    have hlti : (s.size : Int) < N := by omega
    go_enter Try.func21, Try.ntmps21
    go_wp2_with fail
    refine (HLE.out _).mono ?_
    rintro e w1 ⟨rfl, rfl⟩
    go_wp2_with fail
    refine (HRB.out _).mono ?_
    rintro e w1 ⟨rfl, rfl⟩
    go_wp2_with fail
    go_ret2
    exact ⟨Below.refl _ _, Or.inl ⟨rfl, _, rfl⟩⟩
  · rw [if_neg hlt] at HO
    have hlti : ¬ (s.size : Int) < N := by omega
    have hwi : IntKind.i64.wrap (N : Int) = N := by rw [IntKind.wrap_i64]; omega
    have hNn : N ≤ 1000000 := by omega
    generalize opnR s.data.toList = R at *
    go_enter Try.func21, Try.ntmps21
    go_wp2_with fail
    refine (HLE.out _).mono ?_
    rintro e w1 ⟨rfl, rfl⟩
    go_wp2_with fail
    refine (HRB.out _).mono ?_
    rintro e w1 ⟨rfl, rfl⟩
    go_wp2_with fail
    go_loopw [6, 7, 8] (fun u kk z wr => ∃ (es : List En) (va : Option Addr) (vc at' : Nat) (K : ByteArray), u = .slice va es.length vc ∧ kk = .string K ∧ z = .int .i64 at' ∧ at' ≤ s.size ∧ es.length ≤ N ∧ Hid (K = (run st0 es).last ∧ goodb st0 es = true ∧ (∃ b0, OwnsN wr b0 (.slice va es.length vc) es) ∧ R = contR s.data.toList es (rdsR (N - es.length) (run st0 es) (s.data.toList.drop at')) ∧ Below w.heap.size w wr)) (fun u _ _ _ => match u with
      | .slice _ m _ => N - m
      | _ => 0)
    case atStart => exact ⟨[], none, 0, 0, ⟨#[]⟩, rfl, rfl, rfl, Nat.zero_le _, Nat.zero_le _, Lib.hid ⟨rfl, rfl, ⟨0, OwnsN.nil _ _⟩, HO.out, Below.refl _ _⟩⟩
    case round =>
      obtain ⟨es, va, vc, at', K, rfl, rfl, rfl, hat, hel, HI⟩ := hrel
      obtain ⟨hK, hgood, ⟨b0, hown⟩, hR, hbel⟩ := HI.out
      have hso := sound_run _ _ sound0 hgood
      have HK := Lib.hid hK; have HGOOD := Lib.hid hgood; have HOWN := Lib.hid hown; have HR := Lib.hid hR; have HBEL := Lib.hid hbel
      have hKz : K.size ≤ 1024 := by rw [hK]; exact hso.last
      clear HI hK hgood hown hR hbel hso HO
      by_cases hlt2 : es.length < N
      · obtain ⟨j, hj⟩ : ∃ j, N - es.length = j + 1 := ⟨N - es.length - 1, by omega⟩
        have HJ : Hid (N - (es.length + 1) = j) := Lib.hid (by omega)
        rw [hj] at HR
        clear hj
        have hlt3 : (es.length : Int) < N := by omega
        have hat2 : (at' : Int) ≤ s.size := by omega
        have HX : Hid ((s.extract at' s.size).data.toList = s.data.toList.drop at') := Lib.hid (Lib.extract_to_end _ _)
        have hKl : K.data.toList.length = K.size := len K
        have HRV := Lib.hid (fun W => refReadVar_any (s.extract at' s.size) W (by rw [ByteArray.size_extract]; omega))
        rw [HX.out] at HRV
        have hwK : IntKind.u64.wrap (K.size : Int) = K.size := by rw [IntKind.wrap_u64]; omega
        cases hv : Nm.rv (s.data.toList.drop at') with
        | none =>
          have HN : Hid (R = none) := Lib.hid (by rw [HR.out, contR_none]; unfold rdE; rw [hv])
          rw [rvV_none hv] at HRV
          clear hv hKl
          go_wp2_with fail
          refine (HRV.out _).mono ?_
          rintro e w2 ⟨rfl, hb2⟩
          have HB2 := Lib.hid (HBEL.out.trans (hb2.mono HBEL.out.size))
          clear hb2
          go_wp2_with fail
          go_ret2
          exact ⟨HB2.out, Or.inl ⟨HN.out, _, rfl⟩⟩
        | some y =>
          obtain ⟨m, k1⟩ := y
          rw [rvV_some hv] at HRV
          have hk1 := (Nm.row_rv hv).2.1
          rw [List.length_drop, len] at hk1
          by_cases hmp : K.size < m
          · have HN : Hid (R = none) := Lib.hid (by
              rw [HR.out, contR_none]
              unfold rdE
              rw [hv]
              simp only
              rw [if_pos (by rw [← HK.out, len]; exact hmp)])
            have hmi : (K.size : Int) < m := by omega
            clear hv hKl
            go_wp2_with fail
            refine (HRV.out _).mono ?_
            rintro e w2 ⟨rfl, hb2⟩
            have HB2 := Lib.hid (HBEL.out.trans (hb2.mono HBEL.out.size))
            clear hb2
            go_wp2_with fail
            go_ret2
            exact ⟨HB2.out, Or.inl ⟨HN.out, _, rfl⟩⟩
          · have hmi : ¬ (K.size : Int) < m := by omega
            have hpl : ¬ (run st0 es).last.data.toList.length < m := by rw [← HK.out, len]; exact hmp
            have hak : (at' : Int) + k1 ≤ s.size := by omega
            have HX2 : Hid ((s.extract (at' + k1) s.size).data.toList = (s.data.toList.drop at').drop k1) := Lib.hid (by rw [Lib.extract_to_end, List.drop_drop])
            have HRT := Lib.hid (fun W => refReadText_any (s.extract (at' + k1) s.size) 1024 W (by rw [ByteArray.size_extract]; omega))
            rw [HX2.out] at HRT
            cases hr : rt ((s.data.toList.drop at').drop k1) 1024 with
            | none =>
              have HN : Hid (R = none) := Lib.hid (by
                rw [HR.out, contR_none]
                unfold rdE
                rw [hv]
                simp only
                rw [if_neg hpl, hr])
              rw [show rtV ((s.data.toList.drop at').drop k1) 1024 = noText by unfold rtV; rw [hr]] at HRT
              unfold noText at HRT
              clear hv hKl hr hpl
              go_wp2_with fail
              refine (HRV.out _).mono ?_
              rintro e w2 ⟨rfl, hb2⟩
              have HB2 := Lib.hid (HBEL.out.trans (hb2.mono HBEL.out.size))
              clear hb2
              go_wp2_with fail
              refine (HRT.out _).mono ?_
              rintro e w3 ⟨rfl, hb3⟩
              have HB3 := Lib.hid (HB2.out.trans (hb3.mono HB2.out.size))
              clear hb3
              go_wp2_with fail
              go_ret2
              exact ⟨HB3.out, Or.inl ⟨HN.out, _, rfl⟩⟩
            | some x1 =>
              obtain ⟨r, k2⟩ := x1
              have hk2 := (txt_rt hr).2.1
              rw [List.length_drop, List.length_drop, len] at hk2
              have hrl := (txt_rt hr).2.2.2
              have hak2 : (at' : Int) + k1 + k2 ≤ s.size := by omega
              obtain ⟨RB, hRB⟩ : ∃ RB : ByteArray, RB = ⟨r.toArray⟩ := ⟨_, rfl⟩
              rw [show rtV ((s.data.toList.drop at').drop k1) 1024 = .tuple #[.string RB, .int .i64 (k2 : Int), .bool true] by unfold rtV; rw [hr, hRB]] at HRT
              have HX3 : Hid ((s.extract (at' + k1 + k2) s.size).data.toList = (s.data.toList.drop at').drop (k1 + k2)) := Lib.hid (by rw [Lib.extract_to_end, List.drop_drop, Nat.add_assoc])
              have HRU := Lib.hid (fun W => refReadText_any (s.extract (at' + k1 + k2) s.size) 1024 W (by rw [ByteArray.size_extract]; omega))
              rw [HX3.out] at HRU
              cases hr2 : rt ((s.data.toList.drop at').drop (k1 + k2)) 1024 with
              | none =>
                have HN : Hid (R = none) := Lib.hid (by
                  rw [HR.out, contR_none]
                  unfold rdE
                  rw [hv]
                  simp only
                  rw [if_neg hpl, hr]
                  simp only
                  rw [hr2])
                rw [show rtV ((s.data.toList.drop at').drop (k1 + k2)) 1024 = noText by unfold rtV; rw [hr2]] at HRU
                unfold noText at HRU
                clear hv hKl hr hpl hr2 hRB
                go_wp2_with fail
                refine (HRV.out _).mono ?_
                rintro e w2 ⟨rfl, hb2⟩
                have HB2 := Lib.hid (HBEL.out.trans (hb2.mono HBEL.out.size))
                clear hb2
                go_wp2_with fail
                refine (HRT.out _).mono ?_
                rintro e w3 ⟨rfl, hb3⟩
                have HB3 := Lib.hid (HB2.out.trans (hb3.mono HB2.out.size))
                clear hb3
                go_wp2_with fail
                refine (HRU.out _).mono ?_
                rintro e w4 ⟨rfl, hb4⟩
                have HB4 := Lib.hid (HB3.out.trans (hb4.mono HB3.out.size))
                clear hb4
                go_wp2_with fail
                go_ret2
                exact ⟨HB4.out, Or.inl ⟨HN.out, _, rfl⟩⟩
              | some x2 =>
                obtain ⟨v, k3⟩ := x2
                have hk3 := (txt_rt hr2).2.1
                rw [List.length_drop, List.length_drop, len] at hk3
                have hvl := (txt_rt hr2).2.2.2
                obtain ⟨VB, hVB⟩ : ∃ VB : ByteArray, VB = ⟨v.toArray⟩ := ⟨_, rfl⟩
                rw [show rtV ((s.data.toList.drop at').drop (k1 + k2)) 1024 = .tuple #[.string VB, .int .i64 (k3 : Int), .bool true] by unfold rtV; rw [hr2, hVB]] at HRU
                obtain ⟨KN, hKN⟩ : ∃ KN : ByteArray, KN = K.extract 0 m ++ RB := ⟨_, rfl⟩
                have hkn : K.extract 0 m ++ RB = KN := hKN.symm
                have hKNe : KN = ⟨((run st0 es).last.data.toList.take m ++ r).toArray⟩ := by
                  apply ByteArray.ext
                  apply Array.toList_inj.1
                  rw [hKN, ByteArray.data_append, Array.toList_append, hRB, ← HK.out, Lib.extract_eq]
                  rfl
                have HRD : Hid (rdE (s.data.toList.drop at') (run st0 es).last.data.toList = some (⟨KN, VB⟩, k1 + k2 + k3)) := Lib.hid (by
                  unfold rdE
                  rw [hv]
                  simp only
                  rw [if_neg hpl, hr]
                  simp only
                  rw [hr2]
                  simp only
                  rw [hKNe, hVB])
                have hak3 : (at' : Int) + k1 + k2 + k3 ≤ s.size := by omega
                have hmK : (m : Int) ≤ K.size := by omega
                have hm0 : (0 : Int) ≤ m := by omega
                have hadd : ¬ 9223372036854775807 < (K.extract 0 m).size + RB.size := by
                  have g1 : RB.size ≤ 1024 := by rw [hRB, size_mk]; omega
                  have g2 : (K.extract 0 m).size ≤ 1024 := by rw [ByteArray.size_extract]; omega
                  omega
                clear hv hKl hr hpl hr2 hRB hVB hKN hKNe
                go_wp2_with fail
                refine (HRV.out _).mono ?_
                rintro e w2 ⟨rfl, hb2⟩
                have HB2 := Lib.hid (HBEL.out.trans (hb2.mono HBEL.out.size))
                have HO2 := Lib.hid (HOWN.out.below hb2)
                clear hb2
                go_wp2_with fail
                refine (HRT.out _).mono ?_
                rintro e w3 ⟨rfl, hb3⟩
                have HB3 := Lib.hid (HB2.out.trans (hb3.mono HB2.out.size))
                have HO3 := Lib.hid (HO2.out.below hb3)
                clear hb3
                go_wp2_with fail
                refine (HRU.out _).mono ?_
                rintro e w4 ⟨rfl, hb4⟩
                have HB4 := Lib.hid (HB3.out.trans (hb4.mono HB3.out.size))
                have HO4 := Lib.hid (HO3.out.below hb4)
                clear hb4
                have HAD := Lib.hid (refAdd_any HO4.out rfl (by omega) KN VB)
                by_cases he : err (run st0 es) ⟨KN, VB⟩ = 0
                · have hm : more es ⟨KN, VB⟩ = es ++ [⟨KN, VB⟩] := by unfold more; rw [if_pos he]
                  rw [he, hm] at HAD
                  have HN : Hid (R = contR s.data.toList (es ++ [⟨KN, VB⟩]) (rdsR j (run st0 (es ++ [⟨KN, VB⟩])) (s.data.toList.drop (at' + k1 + k2 + k3)))) := Lib.hid (by
                    rw [HR.out, contR_some _ _ _ _ _ _ _ HRD.out he, List.drop_drop, run_snoc, show at' + (k1 + k2 + k3) = at' + k1 + k2 + k3 by omega])
                  have HG2 : Hid (goodb st0 (es ++ [⟨KN, VB⟩]) = true) := Lib.hid (by rw [good_snoc, HGOOD.out, decide_eq_true he]; rfl)
                  have HKL : Hid (KN = (run st0 (es ++ [⟨KN, VB⟩])).last) := Lib.hid (run_last_snoc es ⟨KN, VB⟩).symm
                  clear he hm
                  go_wp2_with fail
                  refine HAD.out.mono ?_
                  rintro e w5 ⟨hb5, a5, c5, b5, rfl, ho5⟩
                  have HB5 := Lib.hid (HB4.out.trans (hb5.mono HB4.out.size))
                  have HO5 := Lib.hid ho5
                  clear hb5 ho5 HAD
                  go_wp2_with fail
                  go_roundw
                  case rel => exact ⟨es ++ [⟨KN, VB⟩], a5, c5, at' + k1 + k2 + k3, KN, by rw [List.length_append]; rfl, rfl, by go_num, by omega, by rw [List.length_append]; show es.length + 1 ≤ N; omega, Lib.hid ⟨HKL.out, HG2.out, ⟨b5, HO5.out⟩, by rw [List.length_append]; show R = contR _ _ (rdsR (N - (es.length + 1)) _ _); rw [HJ.out]; exact HN.out, HB5.out⟩⟩
                  case measure => simp; omega
                · have hne : ((err (run st0 es) ⟨KN, VB⟩ : Nat) : Int) ≠ 0 := by omega
                  have hne2 : (((err (run st0 es) ⟨KN, VB⟩ : Nat) : Int) == 0) = false := by simp; omega
                  have HN : Hid (R = none) := Lib.hid (by rw [HR.out, contR_bad _ _ _ _ _ _ _ HRD.out he])
                  generalize err (run st0 es) ⟨KN, VB⟩ = E at *
                  clear he
                  go_wp2_with fail
                  refine HAD.out.mono ?_
                  rintro e w5 ⟨hb5, a5, c5, b5, rfl, ho5⟩
                  have HB5 := Lib.hid (HB4.out.trans (hb5.mono HB4.out.size))
                  clear hb5 ho5 HAD
                  go_wp2_with fail
                  go_ret2
                  exact ⟨HB5.out, Or.inl ⟨HN.out, _, rfl⟩⟩
      · have hNe : N - es.length = 0 := by omega
        rw [hNe, contR_end] at HR
        have heq : es.length = N := by omega
        have hge : ¬ (es.length : Int) < N := by omega
        have HBY := Lib.hid (refBytes_any va es.length vc es wr (by obtain ⟨b0, ho⟩ := (⟨b0, HOWN.out⟩ : ∃ b, OwnsN wr b (.slice va es.length vc) es); exact ho.sees) rfl HGOOD.out (by omega))
        obtain ⟨T, hT⟩ : ∃ T : ByteArray, T = ⟨(bytes es).toArray⟩ := ⟨_, rfl⟩
        rw [← hT] at HBY
        clear hNe heq
        by_cases hb : bytes es = s.data.toList
        · have hTs : T = s := by
            rw [hT, hb]
          have HN : Hid (R = some es) := Lib.hid (by rw [HR.out, if_pos hb])
          clear hb hT
          subst hTs
          go_wp2_with fail
          refine HBY.out.mono ?_
          rintro e w2 ⟨rfl, hb2⟩
          have HB2 := Lib.hid (HBEL.out.trans (hb2.mono HBEL.out.size))
          have HO2 := Lib.hid (HOWN.out.below hb2)
          clear hb2
          go_wp2_with fail
          go_ret2
          exact ⟨HB2.out, Or.inr ⟨es, va, vc, b0, HN.out, rfl, HO2.out⟩⟩
        · have hne : (T.toList == s.toList) = false := by
            rw [ByteArray.toList_eq, ByteArray.toList_eq, hT]
            exact beq_eq_false_iff_ne.2 hb
          have HN : Hid (R = none) := Lib.hid (by rw [HR.out, if_neg hb])
          clear hb hT
          go_wp2_with fail
          refine HBY.out.mono ?_
          rintro e w2 ⟨rfl, hb2⟩
          have HB2 := Lib.hid (HBEL.out.trans (hb2.mono HBEL.out.size))
          clear hb2
          go_wp2_with fail
          go_ret2
          exact ⟨HB2.out, Or.inl ⟨HN.out, _, rfl⟩⟩
end Go.Proofs.Ytjpmcphfiiiecaa.Bo
