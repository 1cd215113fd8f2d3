/- The walk of SkipBetween: for every input it answers true, and nothing that was there has turned. -/
import Derived.Test.YtghfgffgcknbmaaSkJ
namespace Go.Proofs.Ytghfgffgcknbmaa.Sk
open Go Go.RowKit
set_option linter.unusedVariables false

/-- A text is ahead of another one, as walks ask it. -/
structure Lt (a b : ByteArray) : Prop where
  lt : Op.bytesLess a.toList b.toList = true
  nlt : Op.bytesLess b.toList a.toList = false
  ne : (a.toList == b.toList) = false
  en : (b.toList == a.toList) = false
  dne : ¬ a.toList = b.toList
  den : ¬ b.toList = a.toList
theorem Lt.of {a b : ByteArray} (h : bytesBefore a.data.toList b.data.toList = true) : Lt a b := by
  have hn : a.toList ≠ b.toList := by rw [ByteArray.toList_eq, ByteArray.toList_eq]; exact lt_ne h
  refine ⟨?_, ?_, beq_false_of_ne hn, beq_false_of_ne (Ne.symm hn), hn, Ne.symm hn⟩
  · rw [less_eq, ByteArray.toList_eq, ByteArray.toList_eq]; exact h
  · rw [less_eq, ByteArray.toList_eq, ByteArray.toList_eq]; exact lt_asym h
theorem less_self (a : ByteArray) : Op.bytesLess a.toList a.toList = false := by
  rw [less_eq]; exact Bool.eq_false_iff.2 (lt_irr _)
theorem txt_of {y : It ByteArray} {K : ByteArray} (h : y.key = K.data.toList) : txt y.key = K := by rw [h]; exact txt_key K
theorem txt_data (k : Str) : (txt k).data.toList = k := rfl

/-- What the calls tell. -/
structure Told (K O : ByteArray) (s : List (It ByteArray)) (k v m u x3 x4 : ByteArray) (ok is there ost : Bool) : Prop where
  seek : tellV (seek K.data.toList s) = .tuple #[.string k, .string v, .bool ok]
  after : tellV (after K.data.toList s) = .tuple #[.string m, .string u, .bool is]
  get : getV (find K.data.toList s) = .tuple #[.string x3, .bool there]
  oth : getV (find O.data.toList s) = .tuple #[.string x4, .bool ost]
theorem told_of (K O : ByteArray) (s : List (It ByteArray)) : ∃ k v m u x3 x4 ok is there ost, Told K O s k v m u x3 x4 ok is there ost := by
  have h1 : ∀ o, ∃ a b c, tellV o = .tuple #[.string a, .string b, .bool c] := fun o => by cases o <;> exact ⟨_, _, _, rfl⟩
  have h2 : ∀ o, ∃ a c, getV o = .tuple #[.string a, .bool c] := fun o => by cases o <;> exact ⟨_, _, rfl⟩
  obtain ⟨k, v, ok, e1⟩ := h1 (Sk.seek K.data.toList s)
  obtain ⟨m, u, is, e2⟩ := h1 (Sk.after K.data.toList s)
  obtain ⟨x3, there, e3⟩ := h2 (find K.data.toList s)
  obtain ⟨x4, ost, e4⟩ := h2 (find O.data.toList s)
  exact ⟨k, v, m, u, x3, x4, ok, is, there, ost, e1, e2, e3, e4⟩
/-- .. and how it lies. -/
inductive Lie (K O : ByteArray) (k v m u : ByteArray) : Bool → Bool → Bool → Bool → Prop
  | a0 : k = ByteArray.empty → v = ByteArray.empty → m = ByteArray.empty → u = ByteArray.empty → Lie K O k v m u false false false false
  | a1 : k = ByteArray.empty → v = ByteArray.empty → m = ByteArray.empty → u = ByteArray.empty → Lt O K → Lie K O k v m u false false false true
  | b0 : k = K → Lie K O k v m u true false true false
  | b1 : k = K → O = K → Lie K O k v m u true false true true
  | b2 : k = K → Lt O K → Lie K O k v m u true false true true
  | c0 : k = K → Lt K m → Lie K O k v m u true true true false
  | c1 : k = K → Lt K m → O = K → Lie K O k v m u true true true true
  | c2 : k = K → Lt K m → Lt O K → Lie K O k v m u true true true true
  | c3 : k = K → Lt K m → O = m → Lie K O k v m u true true true true
  | c4 : k = K → Lt K m → Lt K O → Lt m O → Lie K O k v m u true true true true
  | d0 : Lt K k → m = k → u = v → Lie K O k v m u true true false false
  | d1 : Lt K k → m = k → u = v → Lt O K → Lie K O k v m u true true false true
  | d2 : Lt K k → m = k → u = v → O = k → Lie K O k v m u true true false true
  | d3 : Lt K k → m = k → u = v → Lt K O → Lt k O → Lie K O k v m u true true false true
theorem lie_of {K O : ByteArray} {s : List (It ByteArray)} {k v m u x3 x4 : ByteArray} {ok is there ost : Bool} (hu : Up s) (h : Told K O s k v m u x3 x4 ok is there ost) : Lie K O k v m u ok is there ost := by
  obtain ⟨h1, h2, h3, h4⟩ := h
  obtain ⟨A, B, hs, hA, hB, hsk⟩ := cutAt hu K.data.toList
  rw [find_seek hu] at h3
  have hO : ost = (find O.data.toList s).isSome := by
    cases e : find O.data.toList s with
    | none => rw [e] at h4; simp [getV] at h4; exact h4.2
    | some y => rw [e] at h4; simp [getV] at h4; rw [h4.2]; rfl
  have hmem : ∀ y, find O.data.toList s = Option.some y → y ∈ s ∧ y.key = O.data.toList := fun y hy => find_some hy
  cases B with
  | nil =>
    rw [hsk] at h1 h3
    rw [hs, List.append_nil, after_none hA] at h2
    simp [tellV, getV] at h1 h2 h3
    obtain ⟨rfl, rfl, rfl⟩ := h1
    obtain ⟨rfl, rfl, rfl⟩ := h2
    obtain ⟨-, rfl⟩ := h3
    cases e : find O.data.toList s with
    | none => rw [e] at hO; subst hO; exact .a0 rfl rfl rfl rfl
    | some y =>
      rw [e] at hO
      subst hO
      obtain ⟨hy, hk⟩ := hmem y e
      rw [hs, List.append_nil] at hy
      exact .a1 rfl rfl rfl rfl (Lt.of (by rw [← hk]; exact hA y hy))
  | cons y B =>
    have hym : y ∈ s := by rw [hs]; simp
    have hyK := hB y (by simp)
    rw [show (y :: B).head? = Option.some y from rfl] at hsk
    rw [hsk] at h1 h3
    simp [tellV] at h1
    obtain ⟨rfl, rfl, rfl⟩ := h1
    have hup : Up (A ++ y :: B) := by rw [← hs]; exact hu
    have hBy : ∀ z ∈ B, bytesBefore y.key z.key = true := fun z hz => by
      have h2 : Up (y :: B) := List.Pairwise.sublist (List.sublist_append_right A _) hup
      exact h2.head hz
    dsimp only at h3
    by_cases hk : y.key = K.data.toList
    · rw [if_pos hk] at h3
      simp [getV] at h3
      obtain ⟨-, rfl⟩ := h3
      have ha : after K.data.toList s = B.head? := by
        rw [hs, ← hk]; exact after_same hup
      rw [ha] at h2
      cases B with
      | nil =>
        simp [tellV] at h2
        obtain ⟨rfl, rfl, rfl⟩ := h2
        cases e : find O.data.toList s with
        | none => rw [e] at hO; subst hO; exact .b0 (txt_of hk)
        | some z =>
          rw [e] at hO
          subst hO
          obtain ⟨hz, hzk⟩ := hmem z e
          rw [hs] at hz
          simp only [List.mem_append, List.mem_cons, List.not_mem_nil, or_false] at hz
          rcases hz with hz | rfl
          · exact .b2 (txt_of hk) (Lt.of (by rw [← hzk]; exact hA z hz))
          · exact .b1 (txt_of hk) (by rw [← txt_of hzk, txt_of hk])
      | cons q B =>
        simp [tellV] at h2
        obtain ⟨rfl, rfl, rfl⟩ := h2
        have hKm : Lt K (txt q.key) := Lt.of (by rw [← hk]; exact hBy q (by simp))
        cases e : find O.data.toList s with
        | none => rw [e] at hO; subst hO; exact .c0 (txt_of hk) hKm
        | some z =>
          rw [e] at hO
          subst hO
          obtain ⟨hz, hzk⟩ := hmem z e
          rw [hs] at hz
          simp only [List.mem_append, List.mem_cons] at hz
          rcases hz with hz | rfl | rfl | hz
          · exact .c2 (txt_of hk) hKm (Lt.of (by rw [← hzk]; exact hA z hz))
          · exact .c1 (txt_of hk) hKm (by rw [← txt_of hzk, txt_of hk])
          · exact .c3 (txt_of hk) hKm (txt_of hzk).symm
          · have h2 : Up (y :: q :: B) := List.Pairwise.sublist (List.sublist_append_right A _) hup
            have h3 := h2.tail.head hz
            exact .c4 (txt_of hk) hKm (Lt.of (by rw [← hzk, ← hk]; exact hBy z (by simp [hz]))) (Lt.of (by rw [← hzk]; exact h3))
    · rw [if_neg hk] at h3
      simp [getV] at h3
      obtain ⟨-, rfl⟩ := h3
      have ha : after K.data.toList s = Option.some y := by
        rw [hs]; exact after_next hA hyK hk
      rw [ha] at h2
      simp [tellV] at h2
      obtain ⟨rfl, rfl, rfl⟩ := h2
      have hKy : bytesBefore K.data.toList y.key = true := (lt_total hk).resolve_left (by rw [hyK]; decide)
      have hLt : Lt K (txt y.key) := Lt.of hKy
      cases e : find O.data.toList s with
      | none => rw [e] at hO; subst hO; exact .d0 hLt rfl rfl
      | some z =>
        rw [e] at hO
        subst hO
        obtain ⟨hz, hzk⟩ := hmem z e
        rw [hs] at hz
        simp only [List.mem_append, List.mem_cons] at hz
        rcases hz with hz | rfl | hz
        · exact .d1 hLt rfl rfl (Lt.of (by rw [← hzk]; exact hA z hz))
        · exact .d2 hLt rfl rfl (txt_of hzk).symm
        · exact .d3 hLt rfl rfl (Lt.of (by rw [← hzk]; exact lt_trans hKy (hBy z hz))) (Lt.of (by rw [← hzk]; exact hBy z hz))
theorem seek_get {s : List (It ByteArray)} (hu : Up s) {K k v : ByteArray} (h : tellV (seek K.data.toList s) = .tuple #[.string k, .string v, .bool true]) : getV (find k.data.toList s) = .tuple #[.string v, .bool true] := by
  cases e : seek K.data.toList s with
  | none => rw [e] at h; simp [tellV] at h
  | some y =>
    rw [e] at h
    simp [tellV] at h
    obtain ⟨rfl, rfl⟩ := h
    rw [txt_data, find_mem hu.one (seek_mem e) rfl]
    rfl

set_option maxHeartbeats 1000000 in
set_option maxRecDepth 100000 in
theorem between_great {ao : Option Addr} {n cap : Nat} {l : List Ac} (K O : ByteArray) (w : World) (h : SeesA w (.slice ao n cap) l) (hbig : ¬ (Small l ∧ K.size ≤ 20000 ∧ O.size ≤ 20000)) :
    Calls Try.prog 8 #[.slice ao n cap, .string K, .string O] w fun e w' => e = .returned (.bool true) ∧ Below w.heap.size w w' := by
  have HG := Lib.hid (great_any w h)
  have HAW := Lib.hid awake_any
  have HBIG := Lib.hid hbig
  clear h hbig
  go_enter Try.func8, Try.ntmps8
  go_wp2_with fail
  refine HG.out.mono ?_
  rintro e w1 ⟨b, rfl, hb1, hsm⟩
  have HB := Lib.hid hb1
  have HSM := Lib.hid hsm
  clear hb1 HG hsm
  cases b with
  | true =>
    go_wp2_with fail
    refine (HAW.out _).mono ?_
    rintro e w2 ⟨rfl, hb2⟩
    have HB2 := Lib.hid (Below.next HB.out hb2)
    clear hb2
    go_wp2_with fail
    go_ret
    exact ⟨rfl, HB2.out⟩
  | false =>
    by_cases h1 : 20000 < K.size
    · go_wp2_with fail
      refine (HAW.out _).mono ?_
      rintro e w2 ⟨rfl, hb2⟩
      have HB2 := Lib.hid (Below.next HB.out hb2)
      clear hb2
      go_wp2_with fail
      go_ret
      exact ⟨rfl, HB2.out⟩
    · have h2 : 20000 < O.size := by
        have h3 := HSM.out rfl
        by_cases h4 : 20000 < O.size
        · exact h4
        · exact absurd ⟨h3, by omega, by omega⟩ HBIG.out
      have h1' : (K.size : Int) ≤ 20000 := by omega
      clear HSM HBIG
      go_wp2_with fail
      refine (HAW.out _).mono ?_
      rintro e w2 ⟨rfl, hb2⟩
      have HB2 := Lib.hid (Below.next HB.out hb2)
      clear hb2
      go_wp2_with fail
      go_ret
      exact ⟨rfl, HB2.out⟩

set_option maxHeartbeats 2000000 in
set_option maxRecDepth 100000 in
theorem between_small {ao : Option Addr} {n cap : Nat} {l : List Ac} (K O : ByteArray) (w : World) (h : SeesA w (.slice ao n cap) l) (hsm : Small l) (hK : K.size ≤ 20000) (hO : O.size ≤ 20000) (hg : ∀ w' : World, True) :
    Calls Try.prog 8 #[.slice ao n cap, .string K, .string O] w fun e w' => e = .returned (.bool true) ∧ Below w.heap.size w w' := by
  have HG := Lib.hid (great_any w h)
  have HAW := Lib.hid awake_any
  have HMD := Lib.hid (fun W (hb : Below w.heap.size w W) => made_any W (h.below hb) hsm 3)
  have hK' : (K.size : Int) ≤ 20000 := by omega
  have hO' : (O.size : Int) ≤ 20000 := by omega
  have HSM := Lib.hid hsm
  clear h hsm hK hO hg
  go_enter Try.func8, Try.ntmps8
  go_wp2_with fail
  refine HG.out.mono ?_
  rintro e w1 ⟨b, rfl, hb1, _⟩
  have HB := Lib.hid hb1
  clear hb1 HG
  cases b with
  | true =>
    go_wp2_with fail
    refine (HAW.out _).mono ?_
    rintro e w2 ⟨rfl, hb2⟩
    have HB2 := Lib.hid (Below.next HB.out hb2)
    clear hb2
    go_wp2_with fail
    go_ret
    exact ⟨rfl, HB2.out⟩
  | false =>
    go_wp2_with fail
    refine (HMD.out _ HB.out).mono ?_
    rintro e w2 ⟨L, rfl, hm2, hb2⟩
    obtain ⟨s, hs⟩ : ∃ s, s = mkS (fh 3) l := ⟨_, rfl⟩
    obtain ⟨r, hr⟩ : ∃ r, r = mkR (fh 3) l := ⟨_, rfl⟩
    rw [← hs, ← hr] at hm2
    have HM := Lib.hid hm2.lies
    have HB2 := Lib.hid (Below.next HB.out hb2)
    clear hb2 hm2 HB HMD hs hr
    obtain ⟨k, v, m, u, x3, x4, ok, is, there, ost, hT⟩ := told_of K O s
    have HLI := Lib.hid (lie_of HM.out.kin.up hT)
    have C1 := Lib.hid (fun W (hb : Below w2.heap.size w2 W) => seek_any (HM.out.below hb) K)
    have C2 := Lib.hid (fun W (hb : Below w2.heap.size w2 W) => after_any (HM.out.below hb) K)
    have C3 := Lib.hid (fun W (hb : Below w2.heap.size w2 W) => get_any (HM.out.below hb) K)
    have C4 := Lib.hid (fun W (hb : Below w2.heap.size w2 W) => get_any (HM.out.below hb) O)
    rw [hT.seek] at C1
    rw [hT.after] at C2
    rw [hT.get] at C3
    rw [hT.oth] at C4
    have HTS := Lib.hid hT.seek
    have HKK : Hid (ok = true → ∀ W, Below w2.heap.size w2 W → Calls Try.prog 30 #[.pointer (some ⟨L.b, 0, none⟩), .string k] W fun e w' => e = .returned (.tuple #[.string v, .bool true]) ∧ Below W.heap.size W w') := Lib.hid (fun e W hb => by
      have h1 := get_any (HM.out.below hb) k
      have h2 := HTS.out
      rw [e] at h2
      rw [seek_get HM.out.kin.up h2] at h1
      exact h1)
    clear hT HTS
    go_wp2_with fail
    refine (C1.out _ (Below.refl _ _)).mono ?_
    rintro e w3 ⟨rfl, hb3⟩
    have B3 := Lib.hid hb3
    clear hb3
    go_wp2_with fail
    refine (C2.out _ B3.out).mono ?_
    rintro e w4 ⟨rfl, hb4⟩
    have B4 := Lib.hid (Below.next B3.out hb4)
    clear hb4
    go_wp2_with fail
    refine (C3.out _ B4.out).mono ?_
    rintro e w5 ⟨rfl, hb5⟩
    have B5 := Lib.hid (Below.next B4.out hb5)
    clear hb5
    go_wp2_with fail
    refine (C4.out _ B5.out).mono ?_
    rintro e w6 ⟨rfl, hb6⟩
    have B6 := Lib.hid (Below.next B5.out hb6)
    have HB : Hid (Below w.heap.size w w6) := Lib.hid (Below.next HB2.out B6.out)
    have HK : Hid (ok = true → ∀ W, Below w6.heap.size w6 W → Calls Try.prog 30 #[.pointer (some ⟨L.b, 0, none⟩), .string k] W fun e w' => e = .returned (.tuple #[.string v, .bool true]) ∧ Below W.heap.size W w') := Lib.hid (fun e W hb => HKK.out e W (Below.next B6.out hb))
    have hes : ByteArray.empty.toList = [] := by rw [ByteArray.toList_eq]; rfl
    have hes2 : ByteArray.empty.toList.isEmpty = true := by rw [hes]; rfl
    have hsO := less_self O
    have hsK := less_self K
    have hsm := less_self m
    have hsk := less_self k
    clear hb6 C1 C2 C3 C4 B3 B4 B5 B6 HB2 HKK HM
    have hli := HLI.out
    clear HLI
    cases hli with
    | a0 e1 e2 e3 e4 =>
      subst e1
      subst e2
      subst e3
      subst e4
      go_wp2_with fail
      refine (HAW.out _).mono ?_
      rintro e w8 ⟨rfl, hb8⟩
      have HB8 := Lib.hid (Below.next HB.out hb8)
      clear hb8
      go_wp2_with fail
      go_ret
      exact ⟨rfl, HB8.out⟩
    | a1 e1 e2 e3 e4 q1 =>
      subst e1
      subst e2
      subst e3
      subst e4
      obtain ⟨q10, q11, q12, q13, q14, q15⟩ := q1
      go_wp2_with fail
      refine (HAW.out _).mono ?_
      rintro e w8 ⟨rfl, hb8⟩
      have HB8 := Lib.hid (Below.next HB.out hb8)
      clear hb8
      go_wp2_with fail
      go_ret
      exact ⟨rfl, HB8.out⟩
    | b0 e1 =>
      subst e1
      go_wp2_with fail
      refine (HK.out (by trivial) _ (Below.refl _ _)).mono ?_
      rintro e w7 ⟨rfl, hb7⟩
      have HB7 := Lib.hid (Below.next HB.out hb7)
      clear hb7
      go_wp2_with fail
      refine (HAW.out _).mono ?_
      rintro e w8 ⟨rfl, hb8⟩
      have HB8 := Lib.hid (Below.next HB7.out hb8)
      clear hb8
      go_wp2_with fail
      go_ret
      exact ⟨rfl, HB8.out⟩
    | b1 e1 e2 =>
      subst e1
      subst e2
      go_wp2_with fail
      refine (HK.out (by trivial) _ (Below.refl _ _)).mono ?_
      rintro e w7 ⟨rfl, hb7⟩
      have HB7 := Lib.hid (Below.next HB.out hb7)
      clear hb7
      go_wp2_with fail
      refine (HAW.out _).mono ?_
      rintro e w8 ⟨rfl, hb8⟩
      have HB8 := Lib.hid (Below.next HB7.out hb8)
      clear hb8
      go_wp2_with fail
      go_ret
      exact ⟨rfl, HB8.out⟩
    | b2 e1 q1 =>
      subst e1
      obtain ⟨q10, q11, q12, q13, q14, q15⟩ := q1
      go_wp2_with fail
      refine (HK.out (by trivial) _ (Below.refl _ _)).mono ?_
      rintro e w7 ⟨rfl, hb7⟩
      have HB7 := Lib.hid (Below.next HB.out hb7)
      clear hb7
      go_wp2_with fail
      refine (HAW.out _).mono ?_
      rintro e w8 ⟨rfl, hb8⟩
      have HB8 := Lib.hid (Below.next HB7.out hb8)
      clear hb8
      go_wp2_with fail
      go_ret
      exact ⟨rfl, HB8.out⟩
    | c0 e1 q1 =>
      subst e1
      obtain ⟨q10, q11, q12, q13, q14, q15⟩ := q1
      go_wp2_with fail
      refine (HK.out (by trivial) _ (Below.refl _ _)).mono ?_
      rintro e w7 ⟨rfl, hb7⟩
      have HB7 := Lib.hid (Below.next HB.out hb7)
      clear hb7
      go_wp2_with fail
      refine (HAW.out _).mono ?_
      rintro e w8 ⟨rfl, hb8⟩
      have HB8 := Lib.hid (Below.next HB7.out hb8)
      clear hb8
      go_wp2_with fail
      go_ret
      exact ⟨rfl, HB8.out⟩
    | c1 e1 q1 e2 =>
      subst e1
      subst e2
      obtain ⟨q10, q11, q12, q13, q14, q15⟩ := q1
      go_wp2_with fail
      refine (HK.out (by trivial) _ (Below.refl _ _)).mono ?_
      rintro e w7 ⟨rfl, hb7⟩
      have HB7 := Lib.hid (Below.next HB.out hb7)
      clear hb7
      go_wp2_with fail
      refine (HAW.out _).mono ?_
      rintro e w8 ⟨rfl, hb8⟩
      have HB8 := Lib.hid (Below.next HB7.out hb8)
      clear hb8
      go_wp2_with fail
      go_ret
      exact ⟨rfl, HB8.out⟩
    | c2 e1 q1 q2 =>
      subst e1
      obtain ⟨q10, q11, q12, q13, q14, q15⟩ := q1
      obtain ⟨q20, q21, q22, q23, q24, q25⟩ := q2
      go_wp2_with fail
      refine (HK.out (by trivial) _ (Below.refl _ _)).mono ?_
      rintro e w7 ⟨rfl, hb7⟩
      have HB7 := Lib.hid (Below.next HB.out hb7)
      clear hb7
      go_wp2_with fail
      refine (HAW.out _).mono ?_
      rintro e w8 ⟨rfl, hb8⟩
      have HB8 := Lib.hid (Below.next HB7.out hb8)
      clear hb8
      go_wp2_with fail
      go_ret
      exact ⟨rfl, HB8.out⟩
    | c3 e1 q1 e2 =>
      subst e1
      subst e2
      obtain ⟨q10, q11, q12, q13, q14, q15⟩ := q1
      go_wp2_with fail
      refine (HK.out (by trivial) _ (Below.refl _ _)).mono ?_
      rintro e w7 ⟨rfl, hb7⟩
      have HB7 := Lib.hid (Below.next HB.out hb7)
      clear hb7
      go_wp2_with fail
      refine (HAW.out _).mono ?_
      rintro e w8 ⟨rfl, hb8⟩
      have HB8 := Lib.hid (Below.next HB7.out hb8)
      clear hb8
      go_wp2_with fail
      go_ret
      exact ⟨rfl, HB8.out⟩
    | c4 e1 q1 q2 q3 =>
      subst e1
      obtain ⟨q10, q11, q12, q13, q14, q15⟩ := q1
      obtain ⟨q20, q21, q22, q23, q24, q25⟩ := q2
      obtain ⟨q30, q31, q32, q33, q34, q35⟩ := q3
      go_wp2_with fail
      refine (HK.out (by trivial) _ (Below.refl _ _)).mono ?_
      rintro e w7 ⟨rfl, hb7⟩
      have HB7 := Lib.hid (Below.next HB.out hb7)
      clear hb7
      go_wp2_with fail
      refine (HAW.out _).mono ?_
      rintro e w8 ⟨rfl, hb8⟩
      have HB8 := Lib.hid (Below.next HB7.out hb8)
      clear hb8
      go_wp2_with fail
      go_ret
      exact ⟨rfl, HB8.out⟩
    | d0 q1 e1 e2 =>
      subst e1
      subst e2
      obtain ⟨q10, q11, q12, q13, q14, q15⟩ := q1
      go_wp2_with fail
      refine (HK.out (by trivial) _ (Below.refl _ _)).mono ?_
      rintro e w7 ⟨rfl, hb7⟩
      have HB7 := Lib.hid (Below.next HB.out hb7)
      clear hb7
      go_wp2_with fail
      refine (HAW.out _).mono ?_
      rintro e w8 ⟨rfl, hb8⟩
      have HB8 := Lib.hid (Below.next HB7.out hb8)
      clear hb8
      go_wp2_with fail
      go_ret
      exact ⟨rfl, HB8.out⟩
    | d1 q1 e1 e2 q2 =>
      subst e1
      subst e2
      obtain ⟨q10, q11, q12, q13, q14, q15⟩ := q1
      obtain ⟨q20, q21, q22, q23, q24, q25⟩ := q2
      go_wp2_with fail
      refine (HK.out (by trivial) _ (Below.refl _ _)).mono ?_
      rintro e w7 ⟨rfl, hb7⟩
      have HB7 := Lib.hid (Below.next HB.out hb7)
      clear hb7
      go_wp2_with fail
      refine (HAW.out _).mono ?_
      rintro e w8 ⟨rfl, hb8⟩
      have HB8 := Lib.hid (Below.next HB7.out hb8)
      clear hb8
      go_wp2_with fail
      go_ret
      exact ⟨rfl, HB8.out⟩
    | d2 q1 e1 e2 e3 =>
      subst e1
      subst e2
      subst e3
      obtain ⟨q10, q11, q12, q13, q14, q15⟩ := q1
      go_wp2_with fail
      refine (HK.out (by trivial) _ (Below.refl _ _)).mono ?_
      rintro e w7 ⟨rfl, hb7⟩
      have HB7 := Lib.hid (Below.next HB.out hb7)
      clear hb7
      go_wp2_with fail
      refine (HAW.out _).mono ?_
      rintro e w8 ⟨rfl, hb8⟩
      have HB8 := Lib.hid (Below.next HB7.out hb8)
      clear hb8
      go_wp2_with fail
      go_ret
      exact ⟨rfl, HB8.out⟩
    | d3 q1 e1 e2 q2 q3 =>
      subst e1
      subst e2
      obtain ⟨q10, q11, q12, q13, q14, q15⟩ := q1
      obtain ⟨q20, q21, q22, q23, q24, q25⟩ := q2
      obtain ⟨q30, q31, q32, q33, q34, q35⟩ := q3
      go_wp2_with fail
      refine (HK.out (by trivial) _ (Below.refl _ _)).mono ?_
      rintro e w7 ⟨rfl, hb7⟩
      have HB7 := Lib.hid (Below.next HB.out hb7)
      clear hb7
      go_wp2_with fail
      refine (HAW.out _).mono ?_
      rintro e w8 ⟨rfl, hb8⟩
      have HB8 := Lib.hid (Below.next HB7.out hb8)
      clear hb8
      go_wp2_with fail
      go_ret
      exact ⟨rfl, HB8.out⟩
theorem between_walk (ao : Option Addr) (n cap : Nat) (l : List Ac) (K O : ByteArray) (w : World) (h : SeesA w (.slice ao n cap) l) (_ : K.size ≤ 9223372036854775807) (_ : O.size ≤ 9223372036854775807) :
    Calls Try.prog 8 #[.slice ao n cap, .string K, .string O] w fun e w' => e = .returned (.bool true) ∧ Below w.heap.size w w' := by
  by_cases hb : Small l ∧ K.size ≤ 20000 ∧ O.size ≤ 20000
  · exact between_small K O w h hb.1 hb.2.1 hb.2.2 (fun _ => trivial)
  · exact between_great K O w h hb

end Go.Proofs.Ytghfgffgcknbmaa.Sk
