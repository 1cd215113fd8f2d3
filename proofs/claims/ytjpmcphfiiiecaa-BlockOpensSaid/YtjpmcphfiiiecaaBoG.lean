/- The walks of block's build, parts, Open. -/
import Derived.Test.YtjpmcphfiiiecaaBoC
import Derived.Test.YtjpmcphfiiiecaaBoF
namespace Go.Proofs.Ytjpmcphfiiiecaa.Bo
open Go Go.RowKit
set_option linter.unusedVariables false

/-- What a builder holds behind an Add. -/
def after (s : St) (e : En) : St := if err s e = 0 then step s e else s
theorem Sound.after {s : St} (h : Sound s) (e : En) : Sound (after s e) := by
  unfold Bo.after
  split
  · rename_i he
    exact h.step he
  · exact h
theorem after_n (s : St) (e : En) : (after s e).n ≤ s.n + 1 := by
  unfold after
  split
  · exact Nat.le_refl _
  · omega
theorem add_any {w : World} {base : Nat} {L : BL} {s : St} (h : Built w base L s) (hs : Sound s) (hn : s.n ≤ 2000000) (k v : ByteArray) :
    Calls Try.prog 11 #[.pointer (some ⟨L.b, 0, none⟩), .string k, .string v] w fun e w' => e = .returned (.int .i64 (err s ⟨k, v⟩ : Int)) ∧ GoesB base L w (after s ⟨k, v⟩) w' := by
  by_cases hl : 1024 < k.size ∨ 1024 < v.size
  · have he : err s ⟨k, v⟩ = 3 := by unfold err; rw [if_pos hl]
    unfold after
    rw [he, if_neg (by decide)]
    refine (add_long h k v hl).mono ?_
    rintro e w' ⟨rfl, rfl⟩
    exact ⟨rfl, GoesB.refl h⟩
  · by_cases hlt : s.n ≠ 0 ∧ Op.bytesLess s.last.data.toList k.data.toList = false
    · have he : err s ⟨k, v⟩ = 1 := by unfold err; rw [if_neg hl, if_pos hlt]
      unfold after
      rw [he, if_neg (by decide)]
      refine (add_low h k v (by omega) (by omega) (by omega) hlt.2).mono ?_
      rintro e w' ⟨rfl, rfl⟩
      exact ⟨rfl, GoesB.refl h⟩
    · have he : err s ⟨k, v⟩ = 0 := by unfold err; rw [if_neg hl, if_neg hlt]
      unfold after
      rw [if_pos he]
      refine (add_ok h hs hn k v he).mono ?_
      rintro e w' ⟨rfl, hg⟩
      exact ⟨by rw [he]; rfl, hg⟩
theorem GoesB.to_below {w w' : World} {base : Nat} {L : BL} {s s' : St} (h : Built w base L s) (hg : GoesB base L w s' w') : Below base w w' := by
  obtain ⟨L', e, h1, h2, h3⟩ := hg
  exact h2.to_below (Nat.le_of_lt (Nat.lt_of_le_of_lt h.low (heap_lt h.box))) (fun k hk => h.own_ge hk)
theorem good_append : ∀ (a b : List En) (s : St), goodb s (a ++ b) = (goodb s a && goodb (run s a) b)
  | [], b, s => by rw [List.nil_append, goodb, Bool.true_and]; rfl
  | e :: a, b, s => by rw [List.cons_append, goodb, good_append a, goodb, run_cons, Bool.and_assoc]
theorem bld_stop {l : List En} {k : Nat} {e : En} (hk : l[k]? = some e) (he : err (run st0 (l.take k)) e ≠ 0) : bld l = [] := by
  have h1 : l = l.take k ++ (e :: l.drop (k + 1)) := by
    obtain ⟨hlt, hke⟩ := List.getElem?_eq_some_iff.1 hk
    rw [← hke, ← List.drop_eq_getElem_cons hlt, List.take_append_drop]
  unfold bld
  rw [if_neg]
  rw [h1, good_append, goodb, decide_eq_false he]
  simp
theorem new_built (w : World) : Built (w.alloc (.cells #[.slice none 0 0, .slice none 0 0, .int .i64 0, .string ⟨#[]⟩] 25)) w.heap.size ⟨w.heap.size, .slice none 0 0, .slice none 0 0⟩ st0 :=
  ⟨heap_alloc_new w _, Owns.nil _ _, Owns.nil _ _, fun k hk => by simp [Value.ownBlock] at hk, Nat.le_refl _⟩

set_option maxHeartbeats 4000000 in
set_option maxRecDepth 100000 in
theorem build_any (a : Option Addr) (n c : Nat) (rs : List Row) (w : World) (base0 : Nat) (h : OwnsR w base0 (.slice a n c) rs) (hl : rs.length = n) (hn : n ≤ 1000000) :
    Calls Try.prog 32 #[.slice a n c] w (Gives (.string ⟨(bld (rs.map Prod.snd)).toArray⟩) w) := by
  have HH := Lib.hid h; clear h
  have HLEN := Lib.hid hl; clear hl
  obtain ⟨X, hX⟩ : ∃ X : ByteArray, X = ⟨(bld (rs.map Prod.snd)).toArray⟩ := ⟨_, rfl⟩
  rw [← hX]
  have HX := Lib.hid hX; clear hX
  have HNB := Lib.hid (new_built w)
  go_enter Try.func32, Try.ntmps32
  go_wp2_with fail
  go_loopw [8] (fun i wr => ∃ (k : Nat), k ≤ n ∧ i = .int .i64 k ∧ Hid (goodb st0 ((rs.map Prod.snd).take k) = true ∧ ∃ L, L.b = w.heap.size ∧ Built wr w.heap.size L (run st0 ((rs.map Prod.snd).take k)) ∧ Below w.heap.size w wr)) (fun i _ => n - (intOf i).toNat)
  case atStart => exact ⟨0, Nat.zero_le _, rfl, Lib.hid ⟨rfl, _, rfl, HNB.out, (Below.refl _ _).alloc (Nat.le_refl _) _⟩⟩
  case round =>
    obtain ⟨k, hk, rfl, HI⟩ := hrel
    obtain ⟨hg, L, hL, hb, hbel⟩ := HI.out
    by_cases hlt : k < n
    · obtain ⟨⟨kv, en⟩, hrow⟩ : ∃ x, rs[k]? = some x := ⟨_, List.getElem?_eq_getElem (by rw [HLEN.out]; exact hlt)⟩
      obtain ⟨g, rfl, hgl, k0, k1⟩ := HH.out.at hrow
      have hgb : ∀ j, wr.cell? ⟨g, j, none⟩ = w.cell? ⟨g, j, none⟩ := fun j => hbel.cell (p := ⟨g, j, none⟩) hgl
      have c0 := (hgb _).trans k0
      have c1 := (hgb _).trans k1
      dsimp only at c0 c1
      have hsee := (HH.out.sees _ (List.mem_of_getElem? hrow)).below hbel
      dsimp only at hsee
      obtain ⟨ka, kc, e, -⟩ := id hsee
      rw [e] at c0
      rw [e] at hsee
      have hcv : ∀ o, (convert 22 9 (.slice ka en.key.data.toList.length kc)).run Try.prog (wr.alloc o) = .ok (.string en.key) (wr.alloc o) := fun o => (hsee.below ((Below.refl _ _).alloc (Nat.le_refl _) o)).convert
      have hnn : (run st0 ((rs.map Prod.snd).take k)).n = k := by
        rw [run_n, List.length_take, List.length_map, HLEN.out]
        show 0 + _ = _
        omega
      have hso := sound_run _ _ sound0 hg
      have HADD : ∀ o, Hid (Calls Try.prog 11 #[.pointer (some ⟨w.heap.size, 0, none⟩), .string en.key, .string en.val] (wr.alloc o) fun e w' => e = .returned (.int .i64 (err (run st0 ((rs.map Prod.snd).take k)) en : Int)) ∧ GoesB w.heap.size L (wr.alloc o) (after (run st0 ((rs.map Prod.snd).take k)) en) w') := fun o => Lib.hid (by
        have := add_any (hb.below ((Below.refl _ wr).alloc (Nat.le_refl _) o)) hso (by rw [hnn]; omega) en.key en.val
        rw [hL] at this
        exact this)
      have hat : (rs.map Prod.snd)[k]? = some en := by rw [List.getElem?_map, hrow]; rfl
      have HTK : Hid ((rs.map Prod.snd).take (k + 1) = (rs.map Prod.snd).take k ++ [en]) := Lib.hid (by
        obtain ⟨h1, h2⟩ := List.getElem?_eq_some_iff.1 hat
        rw [List.take_succ_eq_append_getElem h1, h2])
      have HSTOP := Lib.hid (fun he => bld_stop hat he)
      have HGB := Lib.hid (fun o w' s' (hg' : GoesB w.heap.size L (wr.alloc o) s' w') => GoesB.to_below (hb.below ((Below.refl _ wr).alloc (Nat.le_refl _) o)) hg')
      have HBEL := Lib.hid hbel; have HL := Lib.hid hL; have HG := Lib.hid hg
      generalize en.key.data.toList.length = kz at *
      clear hsee hso hb hbel hL hg HI hnn hat hgb k0 k1 hrow e HNB
      by_cases he : err (run st0 ((rs.map Prod.snd).take k)) en = 0
      · have HE := Lib.hid he
        rw [he] at HADD
        clear he HSTOP
        go_wp2_with fail
        refine (HADD _).out.mono ?_
        rintro e w2 ⟨rfl, hg2⟩
        have HG2 := Lib.hid hg2; clear hg2
        go_wp2_with fail
        go_roundw
        case rel =>
          refine ⟨k + 1, by omega, by go_num, Lib.hid ?_⟩
          have hb2 := HGB.out _ _ _ HG2.out
          obtain ⟨L2, e2, h2, -, -⟩ := HG2.out
          have ha : after (run st0 ((rs.map Prod.snd).take k)) en = run st0 ((rs.map Prod.snd).take (k + 1)) := by
            unfold after
            rw [if_pos HE.out, HTK.out, run_snoc]
          rw [ha] at h2
          refine ⟨?_, L2, e2.trans HL.out, h2, ?_⟩
          · rw [HTK.out, good_snoc, HG.out, decide_eq_true HE.out]; rfl
          · exact (HBEL.out.alloc HBEL.out.size _).trans hb2
        case measure => simp [intOf]; omega
      · have HS := Lib.hid (HSTOP.out he)
        have hne : ((err (run st0 ((rs.map Prod.snd).take k)) en : Nat) : Int) ≠ 0 := by omega
        have HX2 : Hid (X = ⟨#[]⟩) := Lib.hid (by rw [HX.out, HS.out])
        clear HSTOP he HS
        generalize err (run st0 ((rs.map Prod.snd).take k)) en = E at *
        go_wp2_with fail
        refine (HADD _).out.mono ?_
        rintro e w2 ⟨rfl, hg2⟩
        have HG2 := Lib.hid hg2; clear hg2
        go_wp2_with fail
        go_ret
        rw [HX2.out]
        exact ⟨rfl, (HBEL.out.alloc HBEL.out.size _).trans (HGB.out _ _ _ HG2.out)⟩
    · obtain rfl : k = n := by omega
      have ht : (rs.map Prod.snd).take k = rs.map Prod.snd := List.take_of_length_le (by rw [List.length_map, HLEN.out]; omega)
      rw [ht] at hg hb
      have hnn : (run st0 (rs.map Prod.snd)).n = k := by
        rw [run_n, List.length_map, HLEN.out]
        show 0 + _ = _
        omega
      have hso := sound_run _ _ sound0 hg
      have HFIN := Lib.hid (finish_any hb (by have := hso.rows; rw [hnn] at this; omega) (by rw [hso.foot, hnn]; omega) (by rw [hnn]; omega))
      rw [hL] at HFIN
      have HX2 : Hid (X = ⟨(fin (run st0 (rs.map Prod.snd))).toArray⟩) := Lib.hid (by rw [HX.out, bld, if_pos hg]; rfl)
      have HGB := Lib.hid (fun s' w' (hg' : GoesB w.heap.size L wr s' w') => GoesB.to_below hb hg')
      have HBEL := Lib.hid hbel
      clear hg hb hL hbel HI ht hnn hso HNB
      go_wp2_with fail
      refine HFIN.out.mono ?_
      rintro e w2 ⟨rfl, hg2⟩
      have HG2 := Lib.hid hg2; clear hg2
      go_wp2_with fail
      go_ret
      rw [HX2.out]
      exact ⟨rfl, HBEL.out.trans (HGB.out _ _ HG2.out)⟩
/-- Its length. -/
theorem val_u64 (l : List UInt8) (h : l.length = 4) : Nm.val l < 4294967296 := by
  have := Nm.val_lt l
  rw [h] at this
  simpa using this
/-- What parts answers. -/
def partsV (o : Option (List UInt8 × Nat)) : Value := match o with
  | none => .tuple #[.string ⟨#[]⟩, .int .u64 0, .bool false]
  | some (r, n) => .tuple #[.string ⟨r.toArray⟩, .int .u64 (n : Int), .bool true]
set_option maxRecDepth 100000 in
theorem parts_any (s : ByteArray) (w : World) (hs : s.size ≤ 1000000000) :
    Calls Try.prog 30 #[.string s] w fun e w' => e = .returned (partsV (parts s.data.toList)) ∧ w = w' := by
  by_cases h4 : s.size < 4
  · have e : parts s.data.toList = none := by unfold parts; rw [if_pos (by rw [len]; exact h4)]
    have h4i : (s.size : Int) - 4 < 0 := by omega
    rw [e]
    clear e h4
    go_enter Try.func30, Try.ntmps30
    go_wp2_with fail
    go_ret3
    exact ⟨rfl, rfl⟩
  · obtain ⟨d, hd⟩ : ∃ d, s.size = d + 4 := ⟨s.size - 4, by omega⟩
    have hdi : (s.size : Int) - 4 = d := by omega
    obtain ⟨N, hN⟩ : ∃ N, N = Nm.val (s.data.toList.drop d) := ⟨_, rfl⟩
    have hN4 : N < 4294967296 := by rw [hN]; exact val_u64 _ (by rw [List.length_drop, len, hd]; omega)
    have HRB : Hid (∀ W, Calls Try.prog 45 #[.string (s.extract d s.size), .int .i64 4] W fun e w' => e = .returned (.tuple #[.int .u64 (N : Int), .bool true]) ∧ W = w') := Lib.hid (fun W => by
      have hz : (s.extract d s.size).size = 4 := by rw [ByteArray.size_extract]; omega
      have := readBig_yes (s.extract d s.size) 4 W (by omega) (by omega) (by rw [hz]; omega) (by rw [hz]; omega)
      have e : (s.extract d s.size).data.toList.take (4 : Int).toNat = s.data.toList.drop d := by
        rw [Lib.extract_to_end]
        exact List.take_of_length_le (by rw [List.length_drop, len, hd]; show d + 4 - d ≤ 4; omega)
      rw [e, ← hN] at this
      exact this)
    obtain ⟨F, hF⟩ : ∃ F, F = (N + 3) / 4 * 4 := ⟨_, rfl⟩
    have hFi : ((N : Int) + 4 - 1) / 4 * 4 = F := by omega
    have hFt : Int.tdiv ((N : Int) + 4 - 1) 4 * 4 = F := by rw [Int.tdiv_eq_ediv_of_nonneg (by omega)]; exact hFi
    have hFb : F < 4294967300 := by omega
    have hw1 : IntKind.u64.wrap ((N : Int) + 4) = (N : Int) + 4 := by rw [IntKind.wrap_u64]; omega
    have hw2 : IntKind.u64.wrap ((N : Int) + 4 - 1) = (N : Int) + 4 - 1 := by rw [IntKind.wrap_u64]; omega
    have hw3 : IntKind.u64.wrap (F : Int) = F := by rw [IntKind.wrap_u64]; omega
    have hw4 : IntKind.u64.wrap (d : Int) = d := by rw [IntKind.wrap_u64]; omega
    have hw5 : IntKind.i64.wrap (F : Int) = F := by rw [IntKind.wrap_i64]; omega
    have hd2 : (d : Int) ≤ s.size := by omega
    have hd0 : ¬ (d : Int) < 0 := by omega
    have hd1 : (0 : Int) ≤ d := by omega
    have hd5 : (d : Int) ≤ 1000000000 := by omega
    have hF5 : (F : Int) < 4294967300 := by omega
    have HD := Lib.hid hd; clear hd
    by_cases hlt : d < F
    · have HE : Hid (parts s.data.toList = none) := Lib.hid (by
        unfold parts
        rw [len, HD.out, if_neg (by omega), Nat.add_sub_cancel, ← hN, ← hF, if_pos hlt])
      have hlti : (d : Int) < F := by omega
      rw [HE.out]
      clear HE h4 hN hF hlt
      go_enter Try.func30, Try.ntmps30
      go_wp2_with fail
      refine (HRB.out _).mono ?_
      rintro e w1 ⟨rfl, rfl⟩
      go_wp2_with fail
      go_ret3
      exact ⟨rfl, rfl⟩
    · have HE : Hid (partsV (parts s.data.toList) = .tuple #[.string (s.extract 0 (d - F)), .int .u64 (N : Int), .bool true]) := Lib.hid (by
        unfold parts
        rw [len, HD.out, if_neg (by omega), Nat.add_sub_cancel, ← hN, ← hF, if_neg hlt]
        unfold partsV
        simp only
        rw [Lib.extract_eq]
        rfl)
      have hlti : ¬ (d : Int) < F := by omega
      have HWQ : Hid (IntKind.i64.wrap ((d - F : Nat) : Int) = ((d - F : Nat) : Int)) := Lib.hid (by rw [IntKind.wrap_i64]; omega)
      have hdf : (d : Int) - F = ((d - F : Nat) : Int) := by omega
      have hdf2 : ((d - F : Nat) : Int) ≤ s.size := by omega
      rw [HE.out]
      clear HE h4 hN hF hlt hF5 hFb hs hN4
      have hq0 : (0 : Int) ≤ ((d - F : Nat) : Int) := by omega
      have hwq : IntKind.i64.wrap ((d : Int) - F) = ((d - F : Nat) : Int) := by rw [hdf]; exact HWQ.out
      generalize d - F = q at *
      go_enter Try.func30, Try.ntmps30
      go_wp2_with fail
      refine (HRB.out _).mono ?_
      rintro e w1 ⟨rfl, rfl⟩
      go_wp2_with fail
      go_ret3
      exact ⟨rfl, rfl⟩
end Go.Proofs.Ytjpmcphfiiiecaa.Bo
