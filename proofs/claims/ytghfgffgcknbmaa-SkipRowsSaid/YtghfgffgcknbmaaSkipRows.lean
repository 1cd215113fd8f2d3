/- The walk of SkipRows: for every input it answers true, and nothing that was there has turned. -/
import Derived.Test.YtghfgffgcknbmaaSkJ
import Derived.Test.YtghfgffgcknbmaaSkLt
import Derived.Deep.QuietTactic
import Derived.BigQuiet
namespace Go.Proofs.Ytghfgffgcknbmaa.Sk
open Go Go.RowKit
set_option linter.unusedVariables false

theorem row_at {w : World} {base : Nat} {e : TypeId} {z n m cap : Nat} {ao : Option Addr} {xs : List Value} (h : w.ownsRow base e z (.slice ao m cap) n xs) : m = n ∧ ∀ j u, xs[j]? = some u → ∃ g, ao = some ⟨g, 0, none⟩ ∧ base ≤ g ∧ g < w.heap.size ∧ w.cell? ⟨g, j, none⟩ = some u := by
  rcases h.2 with ⟨e1, e2⟩ | ⟨g, cap', cur, e1, hb, hg, _⟩
  · simp only [Value.slice.injEq] at e1
    obtain ⟨rfl, rfl, rfl⟩ := e1
    subst e2
    refine ⟨rfl, fun j u hj => ?_⟩
    have : xs = [] := List.eq_nil_of_length_eq_zero (by simpa using h.1)
    rw [this] at hj
    simp at hj
  · simp only [Value.slice.injEq] at e1
    obtain ⟨rfl, rfl, rfl⟩ := e1
    refine ⟨rfl, fun j u hj => ⟨g, rfl, hb, heap_lt hg, ?_⟩⟩
    have := h.cells (g := g) rfl j u hj
    rwa [add_none] at this
/-- A row, and where a part of it ends. -/
theorem row_part {j : Nat} {s : List (It ByteArray)} {i : Nat} {x : It ByteArray} (h : s[i]? = some x) (hx : j < x.h) : (row j s)[(row j (s.take i)).length]? = some x := by
  have hs : s = s.take (i + 1) ++ s.drop (i + 1) := (List.take_append_drop (i + 1) s).symm
  have e : row j s = row j (s.take i) ++ (x :: row j (s.drop (i + 1))) := by
    conv => lhs; rw [hs, row_append, row_take h, if_pos hx]
    simp
  rw [e, List.getElem?_append_right (Nat.le_refl _), Nat.sub_self]
  rfl
theorem row_take_in {j : Nat} {s : List (It ByteArray)} {i : Nat} {x : It ByteArray} (h : s[i]? = some x) (hx : j < x.h) : (row j (s.take (i + 1))).length = (row j (s.take i)).length + 1 := by
  rw [row_take h, if_pos hx]; simp
theorem row_take_out {j : Nat} {s : List (It ByteArray)} {i : Nat} {x : It ByteArray} (h : s[i]? = some x) (hx : ¬ j < x.h) : (row j (s.take (i + 1))).length = (row j (s.take i)).length := by
  rw [row_take h, if_neg hx]; simp
theorem up_at {s : List (It ByteArray)} (h : Up s) {i : Nat} {x y : It ByteArray} (hx : s[i]? = some x) (hy : s[i + 1]? = some y) : bytesBefore x.key y.key = true := by
  obtain ⟨h1, rfl⟩ := List.getElem?_eq_some_iff.1 hx
  obtain ⟨h2, rfl⟩ := List.getElem?_eq_some_iff.1 hy
  exact (List.pairwise_iff_getElem.1 h) i (i + 1) h1 h2 (Nat.lt_succ_self i)

/-! ### what was set last -/
theorem find_put_same {s : List (It ByteArray)} (h : Up s) (x : It ByteArray) : find x.key (put x s) = some ⟨x.key, x.val, hgt x s⟩ :=
  find_mem (up_put h).one ((mem_put h _).2 (Or.inr rfl)) rfl
theorem find_put_other {s : List (It ByteArray)} (h : Up s) (x : It ByteArray) {k : Str} (hk : k ≠ x.key) : find k (put x s) = find k s := by
  cases e : find k s with
  | none =>
    refine find_none.2 fun y hy e2 => ?_
    rcases (mem_put h y).1 hy with ⟨h1, _⟩ | rfl
    · exact find_none.1 e y h1 e2
    · exact hk e2.symm
  | some y =>
    obtain ⟨h1, h2⟩ := find_some e
    exact find_mem (up_put h).one ((mem_put h y).2 (Or.inl ⟨h1, by rw [h2]; exact hk⟩)) h2
theorem mk_last (f : Ac → Int) (K : Str) (V : ByteArray) : ∀ (l : List Ac) (s r : List (It ByteArray)), Kin s r → (∃ y, find K s = some y ∧ y.val = V) → (∀ x ∈ l, ¬ (x.op = 0 ∧ x.key.data.toList = K)) → ∃ y, find K (l.foldl (stepS f) s) = some y ∧ y.val = V
  | [], s, r, _, h, _ => h
  | x :: l, s, r, hk, h, hl => by
    have hx := hl x (by simp)
    rw [List.foldl_cons]
    by_cases ho : x.op = 0
    · have e : stepS f s x = put (item f x) s := by unfold stepS; rw [if_pos ho]
      rw [e]
      refine mk_last f K V l _ (rput (item f x) r) (hk.put _) ?_ fun y hy => hl y (by simp [hy])
      rw [find_put_other hk.up (item f x) (fun e2 => hx ⟨ho, e2.symm⟩)]
      exact h
    · have e : stepS f s x = s := by unfold stepS; rw [if_neg ho]
      rw [e]
      exact mk_last f K V l s r hk h fun y hy => hl y (by simp [hy])
theorem mk_at (f : Ac → Int) (l : List Ac) (j : Nat) (x : Ac) (hj : l[j]? = some x) (ho : x.op = 0) (hl : ∀ k y, j < k → l[k]? = some y → ¬ (y.op = 0 ∧ y.key = x.key)) : ∃ y, find x.key.data.toList (mkS f l) = some y ∧ y.val = x.val := by
  have hkin := (kin_mk f (l.take j) [] [] Kin.nil).1
  have e : l = l.take (j + 1) ++ l.drop (j + 1) := (List.take_append_drop (j + 1) l).symm
  have e2 : mkS f l = (l.drop (j + 1)).foldl (stepS f) (put (item f x) (mkS f (l.take j))) := by
    have e3 : mkS f (l.take (j + 1)) = put (item f x) (mkS f (l.take j)) := by rw [mkS_take hj]; unfold stepS; rw [if_pos ho]
    rw [← e3]
    unfold mkS
    rw [← List.foldl_append, ← e]
  rw [e2]
  refine mk_last f _ _ _ _ (rput (item f x) (mkR f (l.take j))) (hkin.put _) ⟨_, find_put_same hkin.up (item f x), rfl⟩ fun y hy => ?_
  obtain ⟨k, hk, rfl⟩ := List.getElem_of_mem hy
  have h1 : l[j + 1 + k]? = some (l.drop (j + 1))[k] := by
    rw [← List.getElem?_drop]
    exact List.getElem?_eq_getElem hk
  intro h2
  exact hl _ _ (by omega) h1 ⟨h2.1, by
    have := h2.2
    exact str_eq (by rw [ByteArray.toList_eq, ByteArray.toList_eq]; exact this)⟩

set_option maxHeartbeats 600000 in
set_option maxRecDepth 100000 in
theorem rows_walk (ao : Option Addr) (n cap : Nat) (l : List Ac) (w : World) (h : SeesA w (.slice ao n cap) l) :
    Calls Try.prog 7 #[.slice ao n cap] w fun e w' => e = .returned (.bool true) ∧ Below w.heap.size w w' := by
  have HG := Lib.hid (great_any w h)
  have HAW := Lib.hid awake_any
  have HSA := Lib.hid h
  have HLEN : Hid (l.length = n) := Lib.hid h.len
  have HMD := Lib.hid (fun W (hb : Below w.heap.size w W) (hsm : Small l) => made_any W (h.below hb) hsm 0)
  clear h
  go_enter Try.func7, Try.ntmps7
  go_wp2_with fail
  refine HG.out.mono ?_
  rintro e w1 ⟨b, rfl, hb1, hsm⟩
  have HB := Lib.hid hb1
  have HSM := Lib.hid hsm
  clear hb1 HG hsm
  cases b with
  | true =>
    go_wp2_with fail
    refine (HAW.out _).mono ?_
    rintro e w2 ⟨rfl, hb2⟩
    have HB2 := Lib.hid (Below.next HB.out hb2)
    clear hb2
    go_wp2_with fail
    go_ret
    exact ⟨rfl, HB2.out⟩
  | false =>
    have HSML := Lib.hid (HSM.out rfl)
    clear HSM
    go_wp2_with fail
    refine (HMD.out _ HB.out HSML.out).mono ?_
    rintro e w2 ⟨L, rfl, hm2, hb2⟩
    obtain ⟨s, hs⟩ : ∃ s, s = mkS (fh 0) l := ⟨_, rfl⟩
    obtain ⟨r, hr⟩ : ∃ r, r = mkR (fh 0) l := ⟨_, rfl⟩
    have HLAST := Lib.hid (mk_at (fh 0) l)
    rw [← hs] at HLAST
    have hrl := mkR_len (fh 0) l
    rw [← hs, ← hr] at hm2
    rw [← hr] at hrl
    have HM := Lib.hid hm2.lies
    have HSL : Hid (s.length = r.length) := Lib.hid HM.out.kin.len
    have hs120 : (s.length : Int) ≤ 120 := by have := HSML.out.1; have := HSL.out; omega
    have hn120 : (n : Int) ≤ 120 := by have := HSML.out.1; have := HLEN.out; omega
    have HB2 := Lib.hid (Below.next HB.out hb2)
    have C1 := Lib.hid (rows_any HM.out 0)
    have er0 : rowL 0 s = s := by
      unfold rowL
      rw [if_neg (by omega)]
      exact row_zero fun y hy => (HM.out.hgt y hy).1
    rw [er0] at C1
    clear hb2 hm2 HB HMD hs hr hrl er0
    go_wp2_with fail
    refine C1.out.mono ?_
    rintro e w3 ⟨v3, rfl, hv3, hb3⟩
    obtain ⟨oa, ca, ha⟩ := row_any hv3
    subst ha
    have B3 := Lib.hid hb3
    have V3 := Lib.hid hv3
    clear hb3 hv3 C1
    go_wp2_with fail
    refine (towers_any (HM.out.below B3.out)).mono ?_
    rintro e w4 ⟨v4, rfl, hv4, hb4⟩
    obtain ⟨ot, ct, ht⟩ := row_any hv4
    subst ht
    have B4 := Lib.hid (Below.next B3.out hb4)
    have V4 := Lib.hid hv4
    have V3b := Lib.hid (ownsRow_below V3.out hb4)
    have CL := Lib.hid (len_any (HM.out.below B4.out))
    rw [← HSL.out] at CL
    clear hb4 hv4 V3 B3
    have HM4 := Lib.hid (HM.out.below B4.out)
    have HB4 : Hid (Below w.heap.size w w4) := Lib.hid (Below.next HB2.out B4.out)
    clear HB2 B4 HM
    go_wp2_with (go_at_call 15; refine CL.out.mono ?_; rintro e w7 ⟨rfl, rfl⟩)
    -- keys rise
    go_loopw [6] (fun i wr => ∃ k : Nat, k ≤ s.length ∧ i = .int .i64 (k : Int) ∧ Hid (Below w7.heap.size w7 wr)) (fun i _ => s.length - (intOf i).toNat)
    case atStart => exact ⟨0, Nat.zero_le _, rfl, Lib.hid (Below.refl _ _)⟩
    case round =>
      obtain ⟨k, hk, rfl, HBR⟩ := hrel
      by_cases hks : k < s.length
      · obtain ⟨x, hx⟩ : ∃ x, s[k]? = some x := ⟨s[k], List.getElem?_eq_getElem _⟩
        obtain ⟨_, hA⟩ := row_at (ownsRow_below V3b.out HBR.out)
        obtain ⟨_, hT⟩ := row_at (ownsRow_below V4.out HBR.out)
        obtain ⟨ga, rfl, _, hga, ca0⟩ := hA k (.string (txt x.key)) (by unfold keyCells; rw [List.getElem?_map, hx]; rfl)
        obtain ⟨gt, rfl, _, hgt, ct0⟩ := hT k (.int .i64 (x.h : Int)) (by unfold hgtCells; rw [List.getElem?_map, hx]; rfl)
        have hxh := HM4.out.hgt x (List.mem_of_getElem? hx)
        obtain ⟨H, hH⟩ : ∃ H : Int, H = (x.h : Int) := ⟨_, rfl⟩
        rw [← hH] at ct0
        have hx1 : decide (H < 1) = false := decide_eq_false (by omega)
        have hx2 : decide (12 < H) = false := decide_eq_false (by omega)
        clear hH
        have hki : (k : Int) < s.length := by omega
        by_cases h0 : k = 0
        · subst h0
          clear hA hT hx hxh
          rw [show ((0 : Nat) : Int) = 0 from rfl] at hki
          go_wp2_with fail
          go_quiet (fail)
          go_wp2_with fail
          go_roundw
          case rel => exact ⟨1, by omega, by go_num, Lib.hid (below_drewN HBR.out _)⟩
          case measure => simp [intOf]; omega
        · obtain ⟨j, rfl⟩ : ∃ j, k = j + 1 := ⟨k - 1, by omega⟩
          obtain ⟨y, hy⟩ : ∃ y, s[j]? = some y := ⟨s[j]'(by omega), List.getElem?_eq_getElem _⟩
          obtain ⟨ga', e', _, _, ca1⟩ := hA j (.string (txt y.key)) (by unfold keyCells; rw [List.getElem?_map, hy]; rfl)
          obtain rfl : ga = ga' := by simpa using e'
          obtain ⟨q0, q1, q2, q3, q4, q5⟩ := Lt.of (a := txt y.key) (b := txt x.key) (up_at HM4.out.kin.up hy hx)
          obtain ⟨J, hJ⟩ : ∃ J : Nat, J = j + 1 := ⟨_, rfl⟩
          rw [← hJ] at hki ca0 ct0 ⊢
          have hpos : 0 < J := by omega
          have hsub : IntKind.i64.wrap ((J : Int) - 1) = (j : Int) := by rw [IntKind.wrap_i64]; omega
          have hJl : J < s.length := by omega
          have HJ := Lib.hid hJ
          have hji : (j : Int) < s.length := by omega
          clear hA hT hx hy hxh e' hJ h0 hks hk
          go_wp2_with fail
          go_quiet (fail)
          go_wp2_with fail
          go_roundw
          case rel => exact ⟨J + 1, by omega, by go_num, Lib.hid (below_drewN HBR.out _)⟩
          case measure => simp [intOf]; omega
      · obtain rfl : k = s.length := by omega
        clear hks hk
        go_wp2_with fail
        -- each row is a part of the one below it
        go_loopw [7] (fun lv wr2 => ∃ j : Nat, 1 ≤ j ∧ j ≤ 12 ∧ lv = .int .i64 (j : Int) ∧ Hid (Below w7.heap.size w7 wr2)) (fun lv _ => 12 - (intOf lv).toNat)
        case atStart => exact ⟨1, by omega, by omega, rfl, HBR⟩
        case round =>
          clear HBR
          obtain ⟨j, hj1, hj2, rfl, HBJ⟩ := hrel
          by_cases hj : j < 12
          · have hji : (j : Int) < 12 := by omega
            have erj : rowL (j : Int) s = row j s := by unfold rowL; rw [if_neg (by omega)]; rfl
            have CR := Lib.hid (rows_any (HM4.out.below HBJ.out) (j : Int))
            rw [erj] at CR
            clear erj
            go_wp2_with fail
            refine CR.out.mono ?_
            rintro e w8 ⟨v8, rfl, hv8, hb8⟩
            obtain ⟨ou, cu, hu⟩ := row_any hv8
            subst hu
            have B8 := Lib.hid (HBJ.out.trans (hb8.mono HBJ.out.size))
            obtain ⟨U, hU⟩ : ∃ U, U = (row j s).length := ⟨_, rfl⟩
            rw [← hU] at hv8 ⊢
            have V8 := Lib.hid hv8
            have HU := Lib.hid hU
            clear hb8 hv8 CR HBJ hU
            go_wp2_with fail
            go_loopw [9, 10] (fun m i wr3 => ∃ q : Nat, q ≤ s.length ∧ i = .int .i64 (q : Int) ∧ m = .int .i64 ((row j (s.take q)).length : Int) ∧ Hid (Below w8.heap.size w8 wr3)) (fun _ i _ => s.length - (intOf i).toNat)
            case atStart => exact ⟨0, Nat.zero_le _, rfl, rfl, Lib.hid (Below.refl _ _)⟩
            case round =>
              obtain ⟨q, hq, rfl, rfl, HBQ⟩ := hrel
              have B9 := Lib.hid (B8.out.trans (HBQ.out.mono B8.out.size))
              by_cases hqs : q < s.length
              · obtain ⟨x, hx⟩ : ∃ x, s[q]? = some x := ⟨s[q], List.getElem?_eq_getElem _⟩
                obtain ⟨_, hT⟩ := row_at (ownsRow_below V4.out B9.out)
                obtain ⟨gt, rfl, _, hgt, ct0⟩ := hT q (.int .i64 (x.h : Int)) (by unfold hgtCells; rw [List.getElem?_map, hx]; rfl)
                have hqi : (q : Int) < s.length := by omega
                have hml : (row j (s.take q)).length ≤ s.length := by
                  have h1 : (row j (s.take q)).length ≤ (s.take q).length := List.length_filter_le ..
                  have h2 : (s.take q).length ≤ s.length := by rw [List.length_take]; omega
                  omega
                by_cases hjx : j < x.h
                · have hnl : ¬ (x.h : Int) ≤ j := by omega
                  obtain ⟨_, hA⟩ := row_at (ownsRow_below V3b.out B9.out)
                  obtain ⟨ga, rfl, _, hga, ca0⟩ := hA q (.string (txt x.key)) (by unfold keyCells; rw [List.getElem?_map, hx]; rfl)
                  have hpart := row_part hx hjx
                  obtain ⟨_, hUc⟩ := row_at (ownsRow_below V8.out HBQ.out)
                  obtain ⟨gu, rfl, _, hgu, cu0⟩ := hUc (row j (s.take q)).length (.string (txt x.key)) (by unfold keyCells; rw [List.getElem?_map, hpart]; rfl)
                  have hmU : (row j (s.take q)).length < U := by rw [HU.out]; exact (List.getElem?_eq_some_iff.1 hpart).1
                  have HMS := Lib.hid (row_take_in hx hjx)
                  generalize (row j (s.take q)).length = m at *
                  have hmi : decide ((U : Int) ≤ (m : Int)) = false := decide_eq_false (by omega)
                  have hmi2 : decide (U ≤ m) = false := decide_eq_false (by omega)
                  have hmi3 : (m : Int) < U := by omega
                  clear hT hA hUc hpart hx hjx
                  go_wp2_with fail
                  go_quiet (fail)
                  go_wp2_with fail
                  go_roundw
                  case rel => exact ⟨q + 1, by omega, by go_num, by rw [HMS.out]; go_num, Lib.hid (below_drewN HBQ.out _)⟩
                  case measure => simp [intOf]; omega
                · have hnl : (x.h : Int) ≤ j := by omega
                  have HMS := Lib.hid (row_take_out hx hjx)
                  generalize (row j (s.take q)).length = m at *
                  clear hT hx hjx
                  go_wp2_with fail
                  go_roundw
                  case rel => exact ⟨q + 1, by omega, by go_num, by rw [HMS.out], HBQ⟩
                  case measure => simp [intOf]; omega
              · obtain rfl : q = s.length := by omega
                rw [List.take_length, ← HU.out]
                go_wp2_with fail
                go_roundw
                case rel => exact ⟨j + 1, by omega, by omega, by go_num, B9⟩
                case measure => simp [intOf]; omega
          · have hji : ¬ (j : Int) < 12 := by omega
            clear hj hj1 hj2
            go_wp2_with fail
            clear hji
            -- what was set last is there
            go_loopw [11] (fun i wr2 => ∃ k : Nat, k ≤ n ∧ i = .int .i64 (k : Int) ∧ Hid (Below w7.heap.size w7 wr2)) (fun i _ => n - (intOf i).toNat)
            case atStart => exact ⟨0, Nat.zero_le _, rfl, HBJ⟩
            case round =>
              clear HBJ
              obtain ⟨k, hk, rfl, HBK⟩ := hrel
              by_cases hkn : k < n
              · obtain ⟨x, hx⟩ : ∃ x, l[k]? = some x := ⟨l[k]'(by rw [HLEN.out]; exact hkn), List.getElem?_eq_getElem _⟩
                have hki : (k : Int) < n := by omega
                have HX := Lib.hid hx
                clear hx
                go_wp2_with fail
                go_loopw [12, 13] (fun la c wr3 => ∃ p q : Nat, k ≤ p ∧ p < q ∧ q ≤ n ∧ la = .int .i64 (p : Int) ∧ c = .int .i64 (q : Int) ∧ Hid (p ≠ k → ∃ y, l[p]? = some y ∧ y.op = 0 ∧ y.key = x.key) ∧ Hid (∀ c y, p < c → c < q → l[c]? = some y → ¬ (y.op = 0 ∧ y.key = x.key)) ∧ Hid (Below w7.heap.size w7 wr3)) (fun _ c _ => n - (intOf c).toNat)
                case atStart => exact ⟨k, k + 1, by omega, by omega, by omega, rfl, by go_num, Lib.hid (fun h => absurd rfl h), Lib.hid (fun c y h1 h2 => by omega), HBK⟩
                case round =>
                  clear HBK
                  obtain ⟨p, q, hkp, hpq, hqn, rfl, rfl, HP, HQ, HBQ⟩ := hrel
                  have HBW := Lib.hid (HB4.out.trans (HBQ.out.mono HB4.out.size))
                  by_cases hq : q < n
                  · obtain ⟨y, hy⟩ : ∃ y, l[q]? = some y := ⟨l[q]'(by rw [HLEN.out]; exact hq), List.getElem?_eq_getElem _⟩
                    obtain ⟨b, off, rfl, hb, hy0, c0, c1, _, _⟩ := (HSA.out.below HBW.out).get hy
                    obtain ⟨b', off', e', hb', hx0, d0, d1, _, _⟩ := (HSA.out.below HBW.out).get HX.out
                    simp only [Option.some.injEq, Addr.mk.injEq, and_true] at e'
                    obtain ⟨rfl, rfl⟩ := e'
                    have HY := Lib.hid hy
                    have hqi : (q : Int) < n := by omega
                    clear hy hy0 hx0 d0
                    by_cases ho : y.op = 0
                    · rw [ho] at c0
                      by_cases hkk : y.key = x.key
                      · rw [hkk] at c1
                        have HG2 := Lib.hid (And.intro ho hkk)
                        clear ho hkk
                        go_wp2_with fail
                        go_quiet (fail)
                        go_wp2_with fail
                        go_roundw
                        case rel => exact ⟨q, q + 1, by omega, by omega, by omega, rfl, by go_num, Lib.hid (fun _ => ⟨y, HY.out, HG2.out⟩), Lib.hid (fun c z h1 h2 => by omega), Lib.hid (below_drewN HBQ.out _)⟩
                        case measure => simp [intOf]; omega
                      · have hne : (y.key.toList == x.key.toList) = false := beq_false_of_ne fun e => hkk (str_eq e)
                        have HG2 := Lib.hid hkk
                        clear ho hkk
                        go_wp2_with fail
                        go_quiet (fail)
                        go_wp2_with fail
                        go_roundw
                        case rel => exact ⟨p, q + 1, by omega, by omega, by omega, rfl, by go_num, HP, Lib.hid (fun c z h1 h2 h3 h4 => by
                            by_cases e : c = q
                            · subst e
                              obtain rfl := Option.some.inj (HY.out.symm.trans h3)
                              exact HG2.out h4.2
                            · exact HQ.out c z h1 (by omega) h3 h4), Lib.hid (below_drewN HBQ.out _)⟩
                        case measure => simp [intOf]; omega
                    · have ho2 : ((y.op : Int) == 0) = false := beq_false_of_ne (by omega)
                      have HG2 := Lib.hid ho
                      obtain ⟨o, ho3⟩ : ∃ o : Int, o = (y.op : Int) := ⟨_, rfl⟩
                      rw [← ho3] at c0 ho2
                      clear ho ho3
                      go_wp2_with fail
                      go_quiet (fail)
                      go_wp2_with fail
                      go_roundw
                      case rel => exact ⟨p, q + 1, by omega, by omega, by omega, rfl, by go_num, HP, Lib.hid (fun c z h1 h2 h3 h4 => by
                          by_cases e : c = q
                          · subst e
                            obtain rfl := Option.some.inj (HY.out.symm.trans h3)
                            exact HG2.out h4.1
                          · exact HQ.out c z h1 (by omega) h3 h4), Lib.hid (below_drewN HBQ.out _)⟩
                      case measure => simp [intOf]; omega
                  · obtain rfl : q = n := by omega
                    obtain ⟨b, off, rfl, hb, hx0, d0, d1, _, _⟩ := (HSA.out.below HBW.out).get HX.out
                    have CG := Lib.hid (get_any (HM4.out.below HBQ.out) x.key)
                    obtain ⟨v, ok, hvk⟩ : ∃ v ok, getV (find x.key.data.toList s) = .tuple #[.string v, .bool ok] := by
                      cases find x.key.data.toList s <;> exact ⟨_, _, rfl⟩
                    rw [hvk] at CG
                    obtain ⟨z, hz⟩ : ∃ z, l[p]? = some z := ⟨l[p]'(by rw [HLEN.out]; omega), List.getElem?_eq_getElem _⟩
                    have HZ := Lib.hid hz
                    have HVK := Lib.hid hvk
                    clear hx0 d0 hz hvk
                    go_wp2_with fail
                    refine CG.out.mono ?_
                    rintro e w9 ⟨rfl, hb9⟩
                    have B9 := Lib.hid (HBQ.out.trans (hb9.mono HBQ.out.size))
                    have hbl : b < w7.heap.size := by
                      obtain ⟨b', off', e', hb', _⟩ := (HSA.out.below HB4.out).get HX.out
                      simp only [Option.some.injEq, Addr.mk.injEq, and_true] at e'
                      rw [e'.1]; exact hb'
                    obtain ⟨b', off', e', hb', hz0, c0, c1, c2, _⟩ := (HSA.out.below (HB4.out.trans (B9.out.mono HB4.out.size))).get HZ.out
                    simp only [Option.some.injEq, Addr.mk.injEq, and_true] at e'
                    obtain ⟨rfl, rfl⟩ := e'
                    have hpi : (p : Int) < q := by omega
                    clear hb9 c1 hz0 CG
                    by_cases ho : z.op = 0
                    · rw [ho] at c0
                      have hkey : z.key = x.key := by
                        by_cases e : p = k
                        · subst e
                          obtain rfl := Option.some.inj (HZ.out.symm.trans HX.out)
                          rfl
                        · obtain ⟨y, h1, _, h3⟩ := HP.out e
                          obtain rfl := Option.some.inj (HZ.out.symm.trans h1)
                          exact h3
                      obtain ⟨y, h1, h2⟩ := HLAST.out p z HZ.out ho (fun c y h1 h2 => by
                        rw [hkey]
                        exact HQ.out c y h1 (by rw [← HLEN.out]; exact (List.getElem?_eq_some_iff.1 h2).1) h2)
                      rw [hkey] at h1
                      have hvk := HVK.out
                      rw [h1] at hvk
                      simp [getV] at hvk
                      obtain ⟨rfl, rfl⟩ := hvk
                      rw [← h2] at c2
                      clear ho hkey h1 h2
                      go_wp2_with fail
                      go_roundw
                      case rel => exact ⟨k + 1, by omega, by go_num, B9⟩
                      case measure => simp [intOf]; omega
                    · have ho2 : ¬ (z.op : Int) = 0 := by omega
                      clear ho
                      go_wp2_with fail
                      go_roundw
                      case rel => exact ⟨k + 1, by omega, by go_num, B9⟩
                      case measure => simp [intOf]; omega
              · obtain rfl : k = n := by omega
                go_wp2_with fail
                refine (HAW.out _).mono ?_
                rintro e w2 ⟨rfl, hb2⟩
                have HB2 := Lib.hid (Below.next (HB4.out.trans (HBK.out.mono HB4.out.size)) hb2)
                clear hb2
                go_wp2_with fail
                go_ret
                exact ⟨rfl, HB2.out⟩

end Go.Proofs.Ytghfgffgcknbmaa.Sk
