/- The walk of block's readEntries. -/
import Derived.Test.YtjpmcphfiiiecaaBoE
import Derived.Deep.AppendLies
namespace Go.Proofs.Ytjpmcphfiiiecaa.Bo
open Go Go.RowKit
set_option linter.unusedVariables false

/-- readEntry, of every text of at most 10^8 bytes. -/
theorem readEntry_any (s : ByteArray) (a : Option Addr) (p : List UInt8) (cap : Nat) (w : World) (hs : s.size ≤ 100000000) (hsee : SeesB w (.slice a p.length cap) p) (hpl : p.length ≤ 10000000000) :
    Calls Try.prog 46 #[.string s, .slice a p.length cap] w (ERead (rdE s.data.toList p) w) := by
  have hno : ∀ {e w'}, Gives noE w e w' → ERead none w e w' := fun h => ⟨h.2, h.1⟩
  cases hv : Nm.rv s.data.toList with
  | none =>
    have e : rdE s.data.toList p = none := by unfold rdE; rw [hv]
    rw [e]
    exact (readEntry_none s a _ cap w hs hv).mono fun _ _ h => hno h
  | some x =>
    obtain ⟨n, k⟩ := x
    by_cases h : p.length < n
    · have e : rdE s.data.toList p = none := by unfold rdE; rw [hv]; simp only; rw [if_pos h]
      rw [e]
      exact (readEntry_less s a _ cap n k w hs hv (by omega) (by omega)).mono fun _ _ h => hno h
    · cases hr : rt (s.data.toList.drop k) 1024 with
      | none =>
        have e : rdE s.data.toList p = none := by unfold rdE; rw [hv]; simp only; rw [if_neg h, hr]
        rw [e]
        exact (readEntry_key s a _ cap n k w hs hv (by omega) (by omega) hr).mono fun _ _ h => hno h
      | some y =>
        obtain ⟨r, j⟩ := y
        cases hr2 : rt (s.data.toList.drop (k + j)) 1024 with
        | none =>
          have e : rdE s.data.toList p = none := by unfold rdE; rw [hv]; simp only; rw [if_neg h, hr]; simp only; rw [hr2]
          rw [e]
          exact (readEntry_val s a _ cap n k j r w hs hv (by omega) (by omega) hr hr2).mono fun _ _ h => hno h
        | some z =>
          obtain ⟨v, i⟩ := z
          have e : rdE s.data.toList p = some (⟨⟨(p.take n ++ r).toArray⟩, ⟨v.toArray⟩⟩, k + j + i) := by unfold rdE; rw [hv]; simp only; rw [if_neg h, hr]; simp only; rw [hr2]
          rw [e]
          exact readEntry_ok s a p cap n k j i r v w hs hsee hv hpl (by omega) hr hr2

/-- An entry that was read: its key as it lies, and what it is. -/
abbrev Row := Value × En
def cellsE (x : Row) : List Value := [x.1, .string x.2.val]
theorem info_entry : (Try.prog.info? 70).map (fun i => (i.zero, i.size, i.bytes)) = some (some (.agg #[.slice none 0 0, .string ⟨#[]⟩]), 2, 40) := by kernel_rfl
/-- Entries that a call laid, from a block on. -/
structure OwnsR (w : World) (base : Nat) (v : Value) (rs : List Row) : Prop where
  own : w.ownsRow base 70 2 v rs.length (rs.flatMap cellsE)
  sees : ∀ x ∈ rs, SeesB w x.1 x.2.key.data.toList
theorem OwnsR.nil (w : World) (base : Nat) : OwnsR w base (.slice none 0 0) [] := ⟨World.ownsRow_nil .., fun x hx => by cases hx⟩
theorem OwnsR.below {w w' : World} {base : Nat} {v : Value} {rs : List Row} (h : OwnsR w base v rs) (hb : Below w.heap.size w w') : OwnsR w' base v rs :=
  ⟨ownsRow_below h.own hb, fun x hx => (h.sees x hx).below hb⟩
theorem cellsE_at : ∀ (rs : List Row) (i : Nat) (x : Row), rs[i]? = some x → (rs.flatMap cellsE)[i * 2]? = some x.1 ∧ (rs.flatMap cellsE)[i * 2 + 1]? = some (.string x.2.val)
  | [], _, _, h => by simp at h
  | r :: rs, 0, x, h => by
    simp only [List.getElem?_cons_zero, Option.some.injEq] at h
    subst h
    simp [cellsE]
  | r :: rs, i + 1, x, h => by
    simp only [List.getElem?_cons_succ] at h
    obtain ⟨h0, h1⟩ := cellsE_at rs i x h
    have e : ∀ j, ((r :: rs).flatMap cellsE)[(i + 1) * 2 + j]? = (rs.flatMap cellsE)[i * 2 + j]? := by
      intro j
      rw [List.flatMap_cons, List.getElem?_append_right (by simp [cellsE]; omega)]
      congr 1
      simp [cellsE]; omega
    exact ⟨(e 0).trans h0, (e 1).trans h1⟩
theorem OwnsR.at {w : World} {base : Nat} {a : Option Addr} {n c : Nat} {rs : List Row} (h : OwnsR w base (.slice a n c) rs) {i : Nat} {x : Row} (hi : rs[i]? = some x) :
    ∃ g, a = some ⟨g, 0, none⟩ ∧ g < w.heap.size ∧ w.cell? ⟨g, i * 2, none⟩ = some x.1 ∧ w.cell? ⟨g, i * 2 + 1, none⟩ = some (.string x.2.val) := by
  have hlt := (List.getElem?_eq_some_iff.1 hi).1
  obtain ⟨g, cap, e, h1, h2, h3, h4, h5⟩ := row_shape h.own (by omega)
  simp only [Value.slice.injEq] at e
  obtain ⟨k0, k1⟩ := cellsE_at rs i x hi
  exact ⟨g, e.1, h2, h5 _ _ k0, h5 _ _ k1⟩
theorem OwnsR.shape {w : World} {base : Nat} {v : Value} {rs : List Row} (h : OwnsR w base v rs) : ∃ a c, v = .slice a rs.length c := row_any h.own

/-- Entries were read, or none. -/
def EsRead (o : Option (List En)) (w : World) (e : Ending) (w' : World) : Prop :=
  Below w.heap.size w w' ∧ match o with
  | none => e = .returned (.tuple #[.slice none 0 0, .bool false])
  | some l => ∃ v rs, e = .returned (.tuple #[v, .bool true]) ∧ OwnsR w' w.heap.size v rs ∧ rs.map Prod.snd = l
def contE (l : List En) : Option (List En) → Option (List En)
  | none => none
  | some l' => some (l ++ l')
theorem contE_end (l : List En) (i : Nat) (p s : List UInt8) : contE l (rds 0 i p s) = some l := by simp [rds, contE]
theorem contE_none (l : List En) (n i : Nat) (p s : List UInt8) (h : rdE s (if i % 4 = 0 then [] else p) = none) : contE l (rds (n + 1) i p s) = none := by rw [rds, h]; rfl
theorem contE_some (l : List En) (n i k : Nat) (p s : List UInt8) (e : En) (h : rdE s (if i % 4 = 0 then [] else p) = some (e, k)) : contE l (rds (n + 1) i p s) = contE (l ++ [e]) (rds n (i + 1) e.key.data.toList (s.drop k)) := by
  rw [rds, h]
  simp only
  cases rds n (i + 1) e.key.data.toList (s.drop k) with
  | none => rfl
  | some l' => simp [contE]

set_option maxHeartbeats 4000000 in
set_option maxRecDepth 100000 in
theorem readEntries_any (s : ByteArray) (n : Nat) (w : World) (hs : s.size ≤ 1000000) (hn : n ≤ 1000000) :
    Calls Try.prog 31 #[.string s, .int .u64 (n : Int)] w (EsRead (rds n 0 [] s.data.toList) w) := by
  obtain ⟨i0, hi, hz0, hz1, hz2⟩ := info_parts info_entry
  have HS := Lib.hid hs
  obtain ⟨R, hR⟩ : ∃ R, R = rds n 0 [] s.data.toList := ⟨_, rfl⟩
  rw [← hR]
  have HE : Hid (R = contE [] (rds (n - 0) 0 [] s.data.toList)) := Lib.hid (by rw [hR]; show rds n 0 [] s.data.toList = contE [] (rds n 0 [] s.data.toList); cases rds n 0 [] s.data.toList <;> rfl)
  clear hR
  go_enter Try.func31, Try.ntmps31
  go_wp2_with fail
  go_loopw [0, 6, 7, 12] (fun t u av i wr => ∃ (k : Nat) (T : ByteArray) (rs : List Row) (a : Option Addr) (c : Nat) (p : List UInt8), k ≤ n ∧ i = .int .u64 k ∧ t = .string T ∧ T.size ≤ s.size ∧ rs.length = k ∧ av = .slice a p.length c ∧ SeesB wr (.slice a p.length c) p ∧ p.length ≤ 1024 * k ∧
    R = contE (rs.map Prod.snd) (rds (n - k) k p T.data.toList) ∧ OwnsR wr w.heap.size u rs ∧ Below w.heap.size w wr) (fun _ _ _ i _ => n - (intOf i).toNat)
  case atStart => exact ⟨0, s, [], none, 0, [], Nat.zero_le _, rfl, rfl, Nat.le_refl _, rfl, rfl, SeesB.nil _, by simp, HE.out, OwnsR.nil _ _, Below.refl _ _⟩
  case round =>
    obtain ⟨k, T, rs, a, c, p, hk, rfl, rfl, hT, hrl, rfl, hsee, hpl, hR, hown, hbel⟩ := hrel
    have HR := Lib.hid hR; clear hR HE
    have hszw := hbel.size
    by_cases hlt : k < n
    · obtain ⟨j, hj⟩ : ∃ j, n - k = j + 1 := ⟨n - k - 1, by omega⟩
      have HJ : Hid (n - (k + 1) = j) := Lib.hid (by omega)
      rw [hj] at HR
      clear hj
      obtain ⟨ua, uc, hu⟩ := hown.shape
      rw [hrl] at hu
      subst hu
      have HRS := Lib.hid (fun W => isRestart_any k W (by omega))
      have HT := Lib.hid hT
      have HPL := Lib.hid hpl; have HSEE := Lib.hid hsee; have HOWN := Lib.hid hown; have HBEL := Lib.hid hbel; have HRL := Lib.hid hrl
      clear hT hpl hsee hown hbel hrl
      go_wp2_with fail
      refine (HRS.out _).mono ?_
      rintro e w1 ⟨rfl, rfl⟩
      by_cases hr4 : k % 4 = 0
      · have HI := Lib.hid hr4
        rw [decide_eq_true hr4]
        clear hr4
        go_wp2_with fail
        have HC := Lib.hid (readEntry_any T none [] 0 wr (by have := HT.out; have := HS.out; omega) (SeesB.nil wr) (by simp))
        cases hro : rdE T.data.toList [] with
        | none =>
          have HN : Hid (R = none) := by rw [HR.out, contE_none _ _ _ _ _ (by rw [if_pos HI.out]; exact hro)]; exact Lib.hid rfl
          rw [hro] at HC
          clear hro
          refine HC.out.mono ?_
          rintro e w1 ⟨hb1, he⟩
          dsimp only at he
          subst he
          unfold noE
          have HB1 := Lib.hid hb1; clear hb1
          go_wp2_with fail
          go_ret2
          refine ⟨Below.alloc (HBEL.out.trans (HB1.out.mono hszw)) (Nat.le_trans hszw HB1.out.size) _, ?_⟩
          rw [HN.out]
          exact rfl
        | some x =>
          obtain ⟨en, m⟩ := x
          have HN : Hid (R = contE (rs.map Prod.snd ++ [en]) (rds j (k + 1) en.key.data.toList (T.data.toList.drop m))) := by rw [HR.out, contE_some _ _ _ _ _ _ _ (by rw [if_pos HI.out]; exact hro)]; exact Lib.hid rfl
          obtain ⟨m1, m2, m3, m4⟩ := rdE_take hro
          rw [len] at m2
          have hmi : (m : Int) ≤ T.size := by omega
          have HM4 : Hid (en.key.size ≤ 1024 * (k + 1)) := Lib.hid (by have := (show ([] : List UInt8).length = 0 from rfl); omega)
          rw [hro] at HC
          clear hro m1 m2 m3 m4
          refine HC.out.mono ?_
          rintro e w1 ⟨hb1, ka, kc, rfl, hks⟩
          obtain ⟨ksz, hksz⟩ : ∃ z, z = en.key.size := ⟨_, rfl⟩
          rw [← hksz] at hks ⊢
          have HKZ := Lib.hid hksz; clear hksz
          have HKS := Lib.hid hks; clear hks
          obtain ⟨vl, hvl⟩ : ∃ z, z = en.val := ⟨_, rfl⟩
          rw [← hvl]
          have HVL := Lib.hid hvl; clear hvl
          have HB1 := Lib.hid hb1; clear hb1
          have hraw : w1.ownsRow w.heap.size 70 2 (.slice ua k uc) k (rs.flatMap cellsE) := by
            have := ownsRow_below HOWN.out.own HB1.out
            rw [HRL.out] at this
            exact this
          have hszb : w.heap.size ≤ w1.heap.size := Nat.le_trans hszw HB1.out.size
          have hbk : ∀ g, (Value.slice ua k uc).ownBlock = some g → g < w1.heap.size := fun g hg => ownsRow_lt hraw hg
          have HBK := Lib.hid hbk; clear hbk
          go_wp2_with (at_builtin; go_must (refine wpList_append_own _ rfl _ _ 63 rfl w.heap.size 70 i0 _ 2 40 Try.underlying63 hi hz0 hz1 hz2 rfl (by decide) _ _ _ rfl ((hraw.alloc _).alloc _) ⟨w1.heap.size + 1, 0, none⟩ 1 1 [_, _] rfl rfl (World.news_of_block (cs := #[_, _]) (fr := (0, 0)) (heap_alloc2_new w1 _ _)) ?c2 ?c3 ?c4 ?c5 ?_))
          case c2 => intro u hu; simp at hu; rcases hu with hu | hu <;> subst hu <;> rfl
          case c3 => unfold maxLen; omega
          case c4 => omega
          case c5 => simp; omega
          intro v2 w2 hown2 hgrow2 _
          have hbox : w2.cell? ⟨w1.heap.size, 0, none⟩ = some (.slice ka ksz kc) := by
            rw [hgrow2.cell_far ⟨w1.heap.size, 0, none⟩ (by simp; omega) (fun e => by have := HBK.out _ e.symm; simp at this)]
            have h0 := (Below.refl _ (w1.alloc (.cells #[.slice ka ksz kc, .string vl] 70))).alloc (Nat.le_refl _) (.cells #[.slice ka ksz kc, .string vl] 70)
            refine (h0.cell (p := ⟨w1.heap.size, 0, none⟩) (by simp)).trans ?_
            rw [cell_of (heap_alloc_new w1 _)]
            rfl
          have hb2 : Below w1.heap.size w1 w2 ∨ True := Or.inr trivial
          have R1 : OwnsR w2 w.heap.size v2 (rs ++ [(.slice ka ksz kc, en)]) ∧ Below w.heap.size w w2 ∧ SeesB w2 (.slice ka ksz kc) en.key.data.toList := by
            have hstep : ∀ {v : Value} {l : List UInt8}, SeesB w1 v l → SeesB w2 v l := by
              intro v l hv
              refine hv.frame fun b cs fz hb => ?_
              have hlt := heap_lt hb
              have hne : (Value.slice ua k uc).ownBlock ≠ some b := by
                intro e
                obtain ⟨cs2, hc2⟩ := ownsRow_obj hraw e
                rw [hb] at hc2
                simp only [Option.some.injEq, Obj.cells.injEq] at hc2
                exact absurd hc2.2.1 (by decide)
              exact (hgrow2.block b (by simp; omega) (Ne.symm hne)).trans (((((Below.refl _ w1).alloc (Nat.le_refl _) _).alloc (by simp) _)).block b hlt)
            refine ⟨⟨?_, ?_⟩, ?_, hstep HKS.out⟩
            · rw [List.length_append, List.flatMap_append, HRL.out]
              have e : [((.slice ka ksz kc : Value), en)].flatMap cellsE = [.slice ka ksz kc, .string vl] := by rw [HVL.out]; rfl
              rw [e]
              exact hown2
            · intro y hy
              rcases List.mem_append.1 hy with h1 | h1
              · exact hstep ((HOWN.out.sees y h1).below HB1.out)
              · obtain rfl : y = _ := by simpa using h1
                exact hstep HKS.out
            · exact (((HBEL.out.trans (HB1.out.mono hszw)).alloc hszb _).alloc (by simp; omega) _).grown hgrow2 (by simp; omega) (fun q hq => (hraw.lt q hq).1)
          clear hown2 hgrow2 hraw hb2
          have HR1 := Lib.hid R1; clear R1
          go_wp2_with fail
          go_roundw
          case rel => exact ⟨k + 1, _, _, ka, kc, en.key.data.toList, by omega, by go_num, rfl, by rw [ByteArray.size_extract]; have := HT.out; omega, by rw [List.length_append, HRL.out]; rfl, by rw [len, ← HKZ.out], by rw [len, ← HKZ.out]; exact HR1.out.2.2, by rw [len]; exact HM4.out, by rw [HJ.out, Lib.extract_to_end, List.map_append]; exact HN.out, HR1.out.1, HR1.out.2.1⟩
          case measure => simp [intOf]; omega
      · have HI := Lib.hid hr4
        rw [decide_eq_false hr4]
        clear hr4
        go_wp2_with fail
        have HC := Lib.hid (readEntry_any T a p c wr (by have := HT.out; have := HS.out; omega) HSEE.out (by have := HPL.out; omega))
        cases hro : rdE T.data.toList p with
        | none =>
          have HN : Hid (R = none) := by rw [HR.out, contE_none _ _ _ _ _ (by rw [if_neg HI.out]; exact hro)]; exact Lib.hid rfl
          rw [hro] at HC
          clear hro
          refine HC.out.mono ?_
          rintro e w1 ⟨hb1, he⟩
          dsimp only at he
          subst he
          unfold noE
          have HB1 := Lib.hid hb1; clear hb1
          go_wp2_with fail
          go_ret2
          refine ⟨Below.alloc (HBEL.out.trans (HB1.out.mono hszw)) (Nat.le_trans hszw HB1.out.size) _, ?_⟩
          rw [HN.out]
          exact rfl
        | some x =>
          obtain ⟨en, m⟩ := x
          have HN : Hid (R = contE (rs.map Prod.snd ++ [en]) (rds j (k + 1) en.key.data.toList (T.data.toList.drop m))) := by rw [HR.out, contE_some _ _ _ _ _ _ _ (by rw [if_neg HI.out]; exact hro)]; exact Lib.hid rfl
          obtain ⟨m1, m2, m3, m4⟩ := rdE_take hro
          rw [len] at m2
          have hmi : (m : Int) ≤ T.size := by omega
          have HM4 : Hid (en.key.size ≤ 1024 * (k + 1)) := Lib.hid (by have := HPL.out; omega)
          rw [hro] at HC
          clear hro m1 m2 m3 m4
          refine HC.out.mono ?_
          rintro e w1 ⟨hb1, ka, kc, rfl, hks⟩
          obtain ⟨ksz, hksz⟩ : ∃ z, z = en.key.size := ⟨_, rfl⟩
          rw [← hksz] at hks ⊢
          have HKZ := Lib.hid hksz; clear hksz
          have HKS := Lib.hid hks; clear hks
          obtain ⟨vl, hvl⟩ : ∃ z, z = en.val := ⟨_, rfl⟩
          rw [← hvl]
          have HVL := Lib.hid hvl; clear hvl
          have HB1 := Lib.hid hb1; clear hb1
          have hraw : w1.ownsRow w.heap.size 70 2 (.slice ua k uc) k (rs.flatMap cellsE) := by
            have := ownsRow_below HOWN.out.own HB1.out
            rw [HRL.out] at this
            exact this
          have hszb : w.heap.size ≤ w1.heap.size := Nat.le_trans hszw HB1.out.size
          have hbk : ∀ g, (Value.slice ua k uc).ownBlock = some g → g < w1.heap.size := fun g hg => ownsRow_lt hraw hg
          have HBK := Lib.hid hbk; clear hbk
          go_wp2_with (at_builtin; go_must (refine wpList_append_own _ rfl _ _ 63 rfl w.heap.size 70 i0 _ 2 40 Try.underlying63 hi hz0 hz1 hz2 rfl (by decide) _ _ _ rfl ((hraw.alloc _).alloc _) ⟨w1.heap.size + 1, 0, none⟩ 1 1 [_, _] rfl rfl (World.news_of_block (cs := #[_, _]) (fr := (0, 0)) (heap_alloc2_new w1 _ _)) ?c2 ?c3 ?c4 ?c5 ?_))
          case c2 => intro u hu; simp at hu; rcases hu with hu | hu <;> subst hu <;> rfl
          case c3 => unfold maxLen; omega
          case c4 => omega
          case c5 => simp; omega
          intro v2 w2 hown2 hgrow2 _
          have hbox : w2.cell? ⟨w1.heap.size, 0, none⟩ = some (.slice ka ksz kc) := by
            rw [hgrow2.cell_far ⟨w1.heap.size, 0, none⟩ (by simp; omega) (fun e => by have := HBK.out _ e.symm; simp at this)]
            have h0 := (Below.refl _ (w1.alloc (.cells #[.slice ka ksz kc, .string vl] 70))).alloc (Nat.le_refl _) (.cells #[.slice ka ksz kc, .string vl] 70)
            refine (h0.cell (p := ⟨w1.heap.size, 0, none⟩) (by simp)).trans ?_
            rw [cell_of (heap_alloc_new w1 _)]
            rfl
          have hb2 : Below w1.heap.size w1 w2 ∨ True := Or.inr trivial
          have R1 : OwnsR w2 w.heap.size v2 (rs ++ [(.slice ka ksz kc, en)]) ∧ Below w.heap.size w w2 ∧ SeesB w2 (.slice ka ksz kc) en.key.data.toList := by
            have hstep : ∀ {v : Value} {l : List UInt8}, SeesB w1 v l → SeesB w2 v l := by
              intro v l hv
              refine hv.frame fun b cs fz hb => ?_
              have hlt := heap_lt hb
              have hne : (Value.slice ua k uc).ownBlock ≠ some b := by
                intro e
                obtain ⟨cs2, hc2⟩ := ownsRow_obj hraw e
                rw [hb] at hc2
                simp only [Option.some.injEq, Obj.cells.injEq] at hc2
                exact absurd hc2.2.1 (by decide)
              exact (hgrow2.block b (by simp; omega) (Ne.symm hne)).trans (((((Below.refl _ w1).alloc (Nat.le_refl _) _).alloc (by simp) _)).block b hlt)
            refine ⟨⟨?_, ?_⟩, ?_, hstep HKS.out⟩
            · rw [List.length_append, List.flatMap_append, HRL.out]
              have e : [((.slice ka ksz kc : Value), en)].flatMap cellsE = [.slice ka ksz kc, .string vl] := by rw [HVL.out]; rfl
              rw [e]
              exact hown2
            · intro y hy
              rcases List.mem_append.1 hy with h1 | h1
              · exact hstep ((HOWN.out.sees y h1).below HB1.out)
              · obtain rfl : y = _ := by simpa using h1
                exact hstep HKS.out
            · exact (((HBEL.out.trans (HB1.out.mono hszw)).alloc hszb _).alloc (by simp; omega) _).grown hgrow2 (by simp; omega) (fun q hq => (hraw.lt q hq).1)
          clear hown2 hgrow2 hraw hb2
          have HR1 := Lib.hid R1; clear R1
          go_wp2_with fail
          go_roundw
          case rel => exact ⟨k + 1, _, _, ka, kc, en.key.data.toList, by omega, by go_num, rfl, by rw [ByteArray.size_extract]; have := HT.out; omega, by rw [List.length_append, HRL.out]; rfl, by rw [len, ← HKZ.out], by rw [len, ← HKZ.out]; exact HR1.out.2.2, by rw [len]; exact HM4.out, by rw [HJ.out, Lib.extract_to_end, List.map_append]; exact HN.out, HR1.out.1, HR1.out.2.1⟩
          case measure => simp [intOf]; omega
    · obtain rfl : k = n := by omega
      have HN : Hid (R = some (rs.map Prod.snd)) := by rw [HR.out, Nat.sub_self, contE_end]; exact Lib.hid rfl
      go_wp2_with fail
      go_ret2
      exact ⟨hbel, by rw [HN.out]; exact ⟨_, rs, rfl, hown, rfl⟩⟩
end Go.Proofs.Ytjpmcphfiiiecaa.Bo
