/- Walks of layer 13's has, done. -/
import Derived.Test.YtlhokfildhcdhaaEdP
import Derived.Deep.RegionLaw
namespace Go.Proofs.Ytlhokfildhcdhaa
open Go.RowKit Sk
set_option linter.unusedVariables false

/-- A number's place in tables; -1: it is not there. -/
def Ed.hasI (l : List Tbl) (n : Nat) : Int := if n ∈ l.map Ed.tbNum then ((l.findIdx (fun t => decide (t.n = n)) : Nat) : Int) else -1
theorem Ed.hasI_at {l : List Tbl} {n k : Nat} (hk : k < l.length) (he : (l.getD k tbd).n = n) (hb : ∀ j, j < k → (l.getD j tbd).n ≠ n) : Ed.hasI l n = k := by
  unfold Ed.hasI
  have e : l.getD k tbd = l[k] := by simp [hk]
  rw [e] at he
  have hm : n ∈ l.map Ed.tbNum := List.mem_map.2 ⟨l[k], List.getElem_mem hk, he⟩
  rw [if_pos hm]
  congr 1
  rw [List.findIdx_eq hk]
  refine ⟨by simpa using he, fun j hj => ?_⟩
  have := hb j hj
  have e2 : l.getD j tbd = l[j] := by simp [show j < l.length by omega]
  rw [e2] at this
  simpa using this
theorem Ed.hasI_no {l : List Tbl} {n : Nat} (hb : ∀ j, j < l.length → (l.getD j tbd).n ≠ n) : Ed.hasI l n = -1 := by
  unfold Ed.hasI
  rw [if_neg]
  intro h
  obtain ⟨t, ht, hn⟩ := List.mem_map.1 h
  obtain ⟨i, hi, rfl⟩ := mem_getD (d := tbd) ht
  exact hb i hi hn
theorem Ed.erase_at (n : Nat) : ∀ (l : List Tbl) (k : Nat), k < l.length → (l.getD k tbd).n = n → (∀ j, j < k → (l.getD j tbd).n ≠ n) → l.eraseP (fun t => decide (t.n = n)) = l.take k ++ l.drop (k + 1)
  | [], k, h, _, _ => by simp at h
  | t :: l, 0, _, h, _ => by
    rw [List.getD_cons_zero] at h
    rw [List.eraseP_cons_of_pos (by simpa using h)]; simp
  | t :: l, k + 1, hk, h, hb => by
    have h0 := hb 0 (by omega)
    rw [List.getD_cons_zero] at h0
    rw [List.getD_cons_succ] at h
    rw [List.eraseP_cons_of_neg (by simpa using h0), Ed.erase_at n l k (by simpa using hk) h (fun j hj => by
      have := hb (j + 1) (by omega)
      rwa [List.getD_cons_succ] at this)]
    simp
theorem Ed.hasI_cases (l : List Tbl) (n : Nat) : (n ∉ l.map Ed.tbNum ∧ Ed.hasI l n = -1) ∨ (n ∈ l.map Ed.tbNum ∧ ∃ k, k < l.length ∧ Ed.hasI l n = (k : Nat) ∧ (l.getD k tbd).n = n ∧ l.eraseP (fun t => decide (t.n = n)) = l.take k ++ l.drop (k + 1)) := by
  by_cases h : n ∈ l.map Ed.tbNum
  · right
    refine ⟨h, l.findIdx (fun t => decide (t.n = n)), ?_, ?_, ?_, ?_⟩
    · obtain ⟨t, ht, hn⟩ := List.mem_map.1 h
      exact List.findIdx_lt_length_of_exists ⟨t, ht, by simpa [Ed.tbNum] using hn⟩
    · unfold Ed.hasI; rw [if_pos h]
    · obtain ⟨t, ht, hn⟩ := List.mem_map.1 h
      have hlt : l.findIdx (fun t => decide (t.n = n)) < l.length := List.findIdx_lt_length_of_exists ⟨t, ht, by simpa [Ed.tbNum] using hn⟩
      have := List.findIdx_getElem (w := hlt)
      have e : l.getD (l.findIdx (fun t => decide (t.n = n))) tbd = l[l.findIdx (fun t => decide (t.n = n))] := by simp [hlt]
      rw [e]
      simpa using this
    · obtain ⟨t, ht, hn⟩ := List.mem_map.1 h
      have hlt : l.findIdx (fun t => decide (t.n = n)) < l.length := List.findIdx_lt_length_of_exists ⟨t, ht, by simpa [Ed.tbNum] using hn⟩
      refine Ed.erase_at n l _ hlt ?_ (fun j hj => ?_)
      · have := List.findIdx_getElem (w := hlt)
        have e : l.getD (l.findIdx (fun t => decide (t.n = n))) tbd = l[l.findIdx (fun t => decide (t.n = n))] := by simp [hlt]
        rw [e]
        simpa using this
      · have := List.not_of_lt_findIdx hj
        have e2 : l.getD j tbd = l[j] := by simp [show j < l.length by omega]
        rw [e2]
        simpa using this
  · left
    refine ⟨h, ?_⟩
    unfold Ed.hasI; rw [if_neg h]

set_option maxHeartbeats 2000000 in
theorem has_any (ao : Option Addr) (an ac : Nat) (l : List Tbl) (n : Nat) (w : World) (hA : SeesTb w (.slice ao an ac) l) (hl : an ≤ 1000000000) :
    Calls Try.prog 25 #[.slice ao an ac, .int .u64 n] w fun e w' => e = .returned (.int .i64 (Ed.hasI l n)) ∧ w' = w := by
  obtain ⟨hal, ba, oa, hac⟩ := hA.get
  have HAC := Lib.hid hac; have HAL := Lib.hid hal
  clear hA hac hal
  go_enter Try.func25, Try.ntmps25
  go_wp2_with fail
  go_loopw [5] (fun i wr => ∃ k : Nat, k ≤ an ∧ i = .int .i64 k ∧ (∀ j, j < k → (l.getD j tbd).n ≠ n) ∧ wr = w) (fun i _ => an - (intOf i).toNat)
  case atStart => exact ⟨0, Nat.zero_le _, rfl, fun j hj => by omega, rfl⟩
  case round =>
    obtain ⟨k, hk, rfl, hno, rfl⟩ := hrel
    have HNO := Lib.hid hno
    clear hno
    by_cases hlt : k < an
    · obtain ⟨rfl, hbl, hob⟩ := HAC.out k hlt
      obtain ⟨c0, -⟩ := hob
      have hkl : k < l.length := by rw [HAL.out]; exact hlt
      by_cases hn : (l.getD k tbd).n = n
      · have HZ : Hid (Ed.hasI l n = k) := Lib.hid (Ed.hasI_at hkl hn HNO.out)
        rw [hn] at c0
        clear hn hkl
        go_wp2_with fail
        go_ret
        rw [HZ.out]
        exact ⟨rfl, rfl⟩
      · have HZ : Hid ((l.getD k tbd).n ≠ n) := Lib.hid hn
        obtain ⟨q, hq⟩ : ∃ q, q = (l.getD k tbd).n := ⟨_, rfl⟩
        rw [← hq] at c0 hn
        have hne : ¬ ((q : Int) = n) := by omega
        clear hn hkl hq
        go_wp2_with fail
        go_roundw
        case rel =>
          refine ⟨k + 1, by omega, by go_num, fun j hj => ?_, by first | trivial | rfl⟩
          by_cases e : j = k
          · rw [e]; exact HZ.out
          · exact HNO.out j (by omega)
        case measure => simp [intOf]; omega
    · have HZ : Hid (Ed.hasI l n = -1) := Lib.hid (Ed.hasI_no (fun j hj => HNO.out j (by rw [HAL.out] at hj; omega)))
      go_wp2_with fail
      go_ret
      rw [HZ.out]
      exact ⟨rfl, rfl⟩

set_option maxHeartbeats 8000000 in
set_option maxRecDepth 100000 in
theorem done_any (ao : Option Addr) (an ac : Nat) (bo : Option Addr) (bn bc : Nat) (co : Option Addr) (cn cc : Nat) (l : List Tbl) (e : Edt) (w : World) (hL : SeesTb w (.slice co cn cc) l) (hA : SeesTb w (.slice ao an ac) e.add) (hD : SeesU w (.slice bo bn bc) e.drop) (h1 : cn ≤ 100000) (h2 : an ≤ 100000) (h3 : bn ≤ 100000) :
    Calls Try.prog 26 #[.slice co cn cc, edV ao an ac bo bn bc e.log e.seq e.next] w (fun x w' => Below w.heap.size w w' ∧ ((Ed.done l e = none ∧ x = .returned (.tuple #[.slice none 0 0, .bool false])) ∨ ∃ m v, Ed.done l e = some m ∧ x = .returned (.tuple #[v, .bool true]) ∧ OwnsTb w' w.heap.size v m)) := by
  obtain ⟨i0, hi, hz0, hz1, hz2⟩ := info_parts info_tb
  have hcl := hL.get.1
  obtain ⟨hal, ba, oa, hac⟩ := hA.get
  obtain ⟨hdl, bd, od, hdc⟩ := hD.get
  have HAC := Lib.hid hac; have HDC := Lib.hid hdc; have HAL := Lib.hid hal; have HDL := Lib.hid hdl
  have HB0 : Hid (∀ o o', Below w.heap.size w ((w.alloc o).alloc o')) := Lib.hid (fun o o' => Below.next_alloc ((Below.refl _ _).alloc (Nat.le_refl _) _) _)
  have HX0 : Hid (∀ o', Ex ((w.alloc (.cells #[.slice ao an ac, .slice bo bn bc, .int .u64 (e.log : Nat), .int .u64 (e.seq : Nat), .int .u64 (e.next : Nat)] 29)).alloc o') w.heap.size (.slice ao an ac) (.slice bo bn bc) e.log e.seq e.next) := Lib.hid (fun o' => heap_alloc2_old _ _ _)
  have HO0 : Hid (∀ o, OwnsTb ((w.alloc o).alloc (.cells #[] 31)) (w.heap.size + 1) (.slice (some ⟨w.heap.size + 1, 0, none⟩) 0 0) []) := Lib.hid (fun o => by
    have := World.ownsRow_made (w.alloc o) (base := w.heap.size + 1) (e := 31) (size := 8) #[] 0 (by simp) (Nat.zero_le _) rfl
    rw [World.size_alloc] at this
    exact this)
  have HL := Lib.hid hL
  clear hac hdc hal hdl hL hA hD
  unfold edV
  go_enter Try.func26, Try.ntmps26
  go_wp2_with (at_builtin; go_must (refine wpList_append_tbs rfl _ _ rfl _ _ rfl (HO0.out _) (by simp) rfl (HL.out.below (HB0.out _ _)) (by simp; omega) ?_))
  intro v1 w1 hown1 hg1
  have hx1 : Ex w1 w.heap.size (.slice ao an ac) (.slice bo bn bc) e.log e.seq e.next := (hg1.block w.heap.size (by simp; omega) (by simp [Value.ownBlock])).trans (HX0.out _)
  have HX1 := Lib.hid hx1
  have HB1 : Hid (Below w.heap.size w w1) := Lib.hid ((HB0.out _ _).grown hg1 (by simp; omega) (fun z hz => by simp [Value.ownBlock] at hz; omega))
  have HO1 : Hid (OwnsTb w1 (w.heap.size + 1) v1 l) := Lib.hid hown1
  obtain ⟨c0, c1, c2, c3, c4, cf, clt⟩ := hx1.of
  clear hown1 hg1 hx1 HO0 HX0
  go_wp2_with fail
  go_loopw [6, 7] (fun u i wr => ∃ (k : Nat) (m : List Tbl), k ≤ bn ∧ i = .int .i64 k ∧ Ed.outs l e.drop = Ed.outs m (e.drop.drop k) ∧ m.length ≤ 100000 ∧ OwnsTb wr (w.heap.size + 1) u m ∧ Below w.heap.size w wr ∧ Ex wr w.heap.size (.slice ao an ac) (.slice bo bn bc) e.log e.seq e.next) (fun _ i _ => bn - (intOf i).toNat)
  case atStart => exact ⟨0, l, Nat.zero_le _, rfl, by simp, by omega, HO1.out, HB1.out, HX1.out⟩
  case round =>
    clear c0 c1 c2 c3 c4 cf clt
    obtain ⟨k, m, hk, rfl, houts, hml, hown, hbel, hex⟩ := hrel
    have hsz := hbel.size
    have hszx := Sk.heap_lt hex
    obtain ⟨c0, c1, c2, c3, c4, cf, clt⟩ := hex.of
    have HOU := Lib.hid houts; have HO := Lib.hid hown; have HBE := Lib.hid hbel; have HEX := Lib.hid hex
    obtain ⟨uo, uc, rfl⟩ := hown.slice
    by_cases hlt : k < bn
    · obtain ⟨rfl, hbl, d0⟩ := HDC.out k hlt
      have d0 := (hbel.cell (p := ⟨bd, od + k, none⟩) hbl).trans d0
      have hbr : bd < wr.heap.size := by omega
      have hkl : k < e.drop.length := by rw [HDL.out]; exact hlt
      have hdr : e.drop.drop k = e.drop.getD k 0 :: e.drop.drop (k + 1) := by
        have e1 : e.drop.getD k 0 = e.drop[k] := by simp [hkl]
        rw [e1]; exact List.drop_eq_getElem_cons hkl
      rw [hdr] at HOU
      clear hdr hkl houts hown hbel hex
      generalize e.drop.getD k 0 = n at *
      have HHA := Lib.hid (has_any uo m.length uc m n wr HO.out.sees (by omega))
      rcases Ed.hasI_cases m n with ⟨hn, hh⟩ | ⟨hn, p, hp, hh, hpn, her⟩
      · have HN : Hid (Ed.done l e = none) := Lib.hid (by unfold Ed.done; rw [HOU.out, Ed.outs, Ed.out, if_neg hn])
        rw [hh] at HHA
        clear hn hh
        go_wp2_with fail
        refine HHA.out.mono ?_
        rintro r w2 ⟨rfl, rfl⟩
        go_wp2_with fail
        go_ret2
        exact ⟨HBE.out, Or.inl ⟨HN.out, rfl⟩⟩
      · have HN : Hid (Ed.outs l e.drop = Ed.outs (m.take p ++ m.drop (p + 1)) (e.drop.drop (k + 1))) := Lib.hid (by
          rw [HOU.out, Ed.outs, Ed.out, if_pos hn, her])
        rw [hh] at HHA
        obtain ⟨vf, hrf, hsf⟩ := tbs_first HO.out p (by omega)
        obtain ⟨vr, hrr, hsr⟩ := tbs_rest HO.out (p + 1) (by omega)
        have HSF := Lib.hid hsf; have HSR := Lib.hid hsr
        have hp1 : ((p + 1 : Nat) : Int) = (p : Int) + 1 := by omega
        rw [hp1] at hrr
        have hpi : (p : Int) < m.length := by omega
        have hpos : ¬ ((p : Int) < 0) := by omega
        have HLE : Hid ((m.take p).length ≤ 100000 ∧ (m.take p ++ m.drop (p + 1)).length ≤ 100000 ∧ (m.take p).length + (m.drop (p + 1)).length ≤ 200000) := Lib.hid (by
          simp only [List.length_append, List.length_take, List.length_drop]; omega)
        have HML := Lib.hid hml
        clear hn hh hpn her hsf hsr hp1 HOU hml
        go_wp2_with fail
        refine HHA.out.mono ?_
        rintro r w2 ⟨rfl, rfl⟩
        go_wp2_with fail
        have hwp : IntKind.i64.wrap ((p : Int) + 1) = (p : Int) + 1 := by rw [IntKind.wrap_i64]; have := HML.out; omega
        have hrr2 := hrr
        rw [← hwp] at hrr2
        have HSFA : Hid (∀ W, Below w2.heap.size w2 W → SeesTb W vf (m.take p)) := Lib.hid (fun W hb => HSF.out.below hb)
        have HSRA : Hid (∀ W, Below w2.heap.size w2 W → SeesTb W vr (m.drop (p + 1))) := Lib.hid (fun W hb => HSR.out.below hb)
        have HEM : Hid (OwnsTb (w2.alloc (.cells #[] 31)) (w.heap.size + 1) (.slice (some ⟨w2.heap.size, 0, none⟩) 0 0) []) := Lib.hid (by
          have := World.ownsRow_made w2 (base := w.heap.size + 1) (e := 31) (size := 8) #[] 0 hszx (Nat.zero_le _) rfl
          exact this)
        have hb1 : Below w2.heap.size w2 (w2.alloc (.cells #[] 31)).drew := ((Below.refl _ _).alloc (Nat.le_refl _) _).drew
        have hb2 : Below w2.heap.size w2 (w2.alloc (.cells #[] 31)) := ((Below.refl _ _).alloc (Nat.le_refl _) _)
        have HSR2 : Hid (∀ w3, (w2.alloc (.cells #[] 31)).drew.grownBy w3 (Value.slice (some ⟨w2.heap.size, 0, none⟩) 0 0).ownBlock → SeesTb w3 vr (m.drop (p + 1)) ∧ w.heap.size + 1 ≤ w3.heap.size ∧ Below w.heap.size w w3 ∧ Ex w3 w.heap.size (.slice ao an ac) (.slice (some ⟨bd, od, none⟩) bn bc) e.log e.seq e.next) := Lib.hid (fun w3 hg => by
          have hbb : Below w2.heap.size w2 w3 := hb1.grown hg hb1.size (fun z hz => by cases hz; exact Nat.le_refl _)
          exact ⟨HSR.out.below hbb, Nat.le_trans hszx hbb.size, Below.next HBE.out hbb, kept_block HEX.out hbb⟩)
        have HLE3 : Hid (([] ++ m.take p : List Tbl).length + (m.drop (p + 1)).length ≤ 1000000) := Lib.hid (by rw [List.nil_append]; have := HLE.out.2.2; omega)
        have HLE1 : Hid (([] : List Tbl).length + (m.take p).length ≤ 1000000) := Lib.hid (by have := HLE.out.1; simp only [List.length_nil]; omega)
        have HS1 : Hid (SeesTb (w2.alloc (.cells #[] 31)) vf (m.take p)) := Lib.hid (HSFA.out _ hb2)
        have HSZ1 : Hid (w.heap.size + 1 ≤ (w2.alloc (.cells #[] 31)).heap.size) := Lib.hid (Nat.le_trans hszx hb2.size)
        clear HSFA HSRA hb1 hb2
        go_region_law (first
          | (fail_if_success (have _hz := hO3)
             refine step_append_tbs rfl _ _ rfl HEM.out HSZ1.out HS1.out (by first | rfl | (simp [Act.eval]; done)) (by first | rfl | (simp [Act.eval]; done)) HLE1.out (fun v3 w3 hO3 hG3 => ?_))
          | (have _hz := hO3
             refine step_append_tbs rfl _ _ rfl hO3 (HSR2.out _ hG3).2.1 (HSR2.out _ hG3).1 (by first | rfl | (simp [Act.eval]; done)) (by first | rfl | (simp [Act.eval]; done)) HLE3.out (fun v4 w4 hO4 hG4 => ?_)))
        all_goals
          have R1 : Hid (OwnsTb w4 (w.heap.size + 1) v4 (m.take p ++ m.drop (p + 1))) := Lib.hid hO4
          have R2 : Hid (Below w.heap.size w w4) := Lib.hid ((HSR2.out _ hG3).2.2.1.grown hG4 (Nat.le_trans (Nat.le_succ _) (HSR2.out _ hG3).2.1) (fun z hz => Nat.le_trans (Nat.le_succ _) (World.ownsRow.lt hO3 z hz).1))
          have R3 : Hid (Ex w4 w.heap.size (.slice ao an ac) (.slice (some ⟨bd, od, none⟩) bn bc) e.log e.seq e.next) := Lib.hid ((hG4.block w.heap.size (HSR2.out _ hG3).2.1 (fun e => by have := (World.ownsRow.lt hO3 _ e.symm).1; omega)).trans (HSR2.out _ hG3).2.2.2)
          clear hO3 hG3 hO4 hG4 hrr hrr2 hrf
          go_wp2_with fail
          go_roundw
          case rel => exact ⟨k + 1, m.take p ++ m.drop (p + 1), by omega, by go_num, HN.out, HLE.out.2.1, R1.out, R2.out, R3.out⟩
          case measure => simp [intOf]; omega
    · obtain rfl : k = bn := by omega
      have HN : Hid (Ed.outs l e.drop = some m) := Lib.hid (by
        rw [HOU.out, List.drop_of_length_le (by rw [HDL.out]; exact Nat.le_refl _)]; rfl)
      have HD0 : Hid (Ed.done l e = Ed.ins m (e.add.drop 0)) := Lib.hid (by unfold Ed.done; rw [HN.out, List.drop_zero])
      have HML := Lib.hid hml
      have HO2 : Hid (OwnsTb wr (w.heap.size + 1) (.slice uo m.length uc) m) := HO
      clear HOU houts hown hbel hex hml HN
      go_wp2_with fail
      go_loopw [6, 9] (fun u i w2 => ∃ (q : Nat) (m' : List Tbl), q ≤ an ∧ i = .int .i64 q ∧ Ed.done l e = Ed.ins m' (e.add.drop q) ∧ m'.length ≤ 100000 + q ∧ OwnsTb w2 (w.heap.size + 1) u m' ∧ Below w.heap.size w w2 ∧ Ex w2 w.heap.size (.slice ao an ac) (.slice bo k bc) e.log e.seq e.next) (fun _ i _ => an - (intOf i).toNat)
      case atStart => exact ⟨0, m, Nat.zero_le _, rfl, HD0.out, by have := HML.out; omega, HO2.out, HBE.out, HEX.out⟩
      case round =>
        clear c0 c1 c2 c3 c4 cf clt HBE HEX HO HO2 HD0 hsz hszx
        obtain ⟨q, m', hq, rfl, hd, hml', hown, hbel, hex⟩ := hrel
        have hsz := hbel.size
        have hszx := Sk.heap_lt hex
        obtain ⟨c0, c1, c2, c3, c4, cf, clt⟩ := hex.of
        have HDN := Lib.hid hd; have HO := Lib.hid hown; have HBE := Lib.hid hbel; have HEX := Lib.hid hex; have HML' := Lib.hid hml'
        obtain ⟨wo, wc, rfl⟩ := hown.slice
        by_cases hqt : q < an
        · obtain ⟨rfl, hbl, hob⟩ := HAC.out q hqt
          obtain ⟨d0, d1, d2, d3, d4, d5, d6, d7⟩ := hob.below hbel hbl
          have hbr : ba < wr.heap.size := by omega
          have hql : q < e.add.length := by rw [HAL.out]; exact hqt
          have hdr : e.add.drop q = e.add.getD q tbd :: e.add.drop (q + 1) := by
            have e1 : e.add.getD q tbd = e.add[q] := by simp [hql]
            rw [e1]; exact List.drop_eq_getElem_cons hql
          rw [hdr] at HDN
          clear hdr hql hd hown hbel hex hob
          generalize e.add.getD q tbd = t at *
          have HHA := Lib.hid (has_any wo m'.length wc m' t.n wr HO.out.sees (by omega))
          clear hml'
          rcases Ed.hasI_cases m' t.n with ⟨hn, hh⟩ | ⟨hn, p, hp, hh, hpn, her⟩
          · have HN : Hid (Ed.done l e = Ed.ins (m' ++ [t]) (e.add.drop (q + 1))) := Lib.hid (by rw [HDN.out, Ed.ins, if_neg hn])
            rw [hh] at HHA
            have hraw : ∀ o, (wr.alloc o).ownsRow (w.heap.size + 1) 31 8 (.slice wo m'.length wc) m'.length (m'.flatMap cellsTb) := fun o => HO.out.below ((Below.refl _ _).alloc (Nat.le_refl _) _)
            clear hn hh
            go_wp2_with fail
            refine HHA.out.mono ?_
            rintro r w2 ⟨rfl, rfl⟩
            go_wp2_with (at_builtin; go_must (refine wpList_append_own _ rfl _ _ 25 rfl (w.heap.size + 1) 31 i0 _ 8 80 Try.underlying25 hi hz0 hz1 hz2 rfl (by decide) _ _ _ rfl (hraw _) ⟨w2.heap.size, 0, none⟩ 1 1 (cellsTb t) rfl rfl (World.news_of_block (cs := #[_, _, _, _, _, _, _, _]) (fr := (0, 0)) (heap_alloc_new w2 _)) ?c2 ?c3 ?c4 ?c5 ?_))
            case c2 => intro u hu; simp [cellsTb] at hu; rcases hu with hu | hu | hu | hu | hu | hu | hu | hu <;> subst hu <;> rfl
            case c3 => have := HML'.out; unfold maxLen; omega
            case c4 => have := HML'.out; omega
            case c5 => simp; omega
            intro v3 w3 hown3 hg3 _
            have R1 : Hid (OwnsTb w3 (w.heap.size + 1) v3 (m' ++ [t])) := Lib.hid (OwnsTb.snoc hown3)
            have R2 : Hid (Below w.heap.size w w3) := Lib.hid ((Below.next_alloc HBE.out _).grown hg3 (by simp; omega) (fun z hz => Nat.le_trans (Nat.le_succ _) ((hraw (.cells #[] 0)).lt z hz).1))
            have R3 : Hid (Ex w3 w.heap.size (.slice (some ⟨ba, oa, none⟩) an ac) (.slice bo k bc) e.log e.seq e.next) := Lib.hid (by
              have h4 : Ex (w2.alloc (.cells #[.int .u64 (t.n : Nat), .int .i64 t.level, .int .i64 t.count, .int .i64 t.size, .string t.first, .string t.last, .int .u64 (t.least : Nat), .int .u64 (t.most : Nat)] 31)) w.heap.size (.slice (some ⟨ba, oa, none⟩) an ac) (.slice bo k bc) e.log e.seq e.next := kept_block HEX.out ((Below.refl _ _).alloc (Nat.le_refl _) _)
              exact (hg3.block w.heap.size (Sk.heap_lt h4) (fun e => by have := ((hraw (.cells #[] 0)).lt _ e.symm).1; omega)).trans h4)
            clear hown3 hg3 hraw
            go_wp2_with fail
            go_roundw
            case rel => exact ⟨q + 1, m' ++ [t], by omega, by go_num, HN.out, by rw [List.length_append, List.length_singleton]; have := HML'.out; omega, R1.out, R2.out, R3.out⟩
            case measure => simp [intOf]; omega
          · have HN : Hid (Ed.done l e = none) := Lib.hid (by rw [HDN.out, Ed.ins, if_pos hn])
            rw [hh] at HHA
            clear hn hh hpn her
            go_wp2_with fail
            refine HHA.out.mono ?_
            rintro r w2 ⟨rfl, rfl⟩
            go_wp2_with fail
            go_ret2
            exact ⟨HBE.out, Or.inl ⟨HN.out, rfl⟩⟩
        · obtain rfl : q = an := by omega
          have HN : Hid (Ed.done l e = some m') := Lib.hid (by
            rw [HDN.out, List.drop_of_length_le (by rw [HAL.out]; exact Nat.le_refl _)]; rfl)
          have HF : Hid (OwnsTb wr w.heap.size (.slice wo m'.length wc) m') := Lib.hid (HO.out.mono (Nat.le_succ _))
          clear hd hml' hown hbel hex
          go_wp2_with fail
          go_ret2
          exact ⟨HBE.out, Or.inr ⟨m', _, HN.out, rfl, HF.out⟩⟩

end Go.Proofs.Ytlhokfildhcdhaa
