/- Walks of edit's reader: tables, numbers. -/
import Derived.Test.YtbdoekogoiijeaaEdF
namespace Go.Proofs.Ytbdoekogoiijeaa
open Go.RowKit Sk
set_option linter.unusedVariables false
set_option maxRecDepth 20000

theorem OwnsTb.turns {b base : Nat} {w w' : World} {v : Value} {ts : List Tbl} (h : OwnsTb w base v ts) (ht : Turns (At b) w w') (hb : b < base) : OwnsTb w' base v ts :=
  Sk.ownsRow_frame h (fun k hk => ht.block k (Sk.ownsRow_lt h hk) (fun e => by have := (World.ownsRow.lt h k hk).1; rw [show k = b from e] at this; omega))
theorem OwnsN.turns {b base : Nat} {w w' : World} {v : Value} {ns : List Nat} (h : OwnsN w base v ns) (ht : Turns (At b) w w') (hb : b < base) : OwnsN w' base v ns :=
  Sk.ownsRow_frame h (fun k hk => ht.block k (Sk.ownsRow_lt h hk) (fun e => by have := (World.ownsRow.lt h k hk).1; rw [show k = b from e] at this; omega))

def lenOf : Value → Nat
  | .slice _ n _ => n
  | _ => 0
/-- Tables were read. -/
def ReadTb (b : Nat) (r : List Tbl × Ed.St) (w : World) (e : Ending) (w' : World) : Prop := ∃ v, e = .returned v ∧ OwnsTb w' w.heap.size v r.1 ∧ RdS w' b r.2 ∧ Turns (At b) w w'

theorem tab_less (s : Ed.St) (h : (Ed.tab s).2.bad = false) : (Ed.tab s).2.rest.length + 1 ≤ s.rest.length := by
  obtain ⟨h1, h2, h3⟩ := Ed.tab_reads.1 s h
  have e := congrArg List.length h2
  rw [List.length_append] at e
  have : 1 ≤ (Ed.tbRow (Ed.tab s).1).length := by
    unfold Ed.tbRow varl Ed.nums
    have := (Nm.row_length (Ed.tab s).1.n).1
    simp only [List.flatMap_cons, List.length_append]
    omega
  omega
theorem tab_le (s : Ed.St) : (Ed.tab s).2.rest.length ≤ s.rest.length := by
  unfold Ed.tab
  simp only
  have l1 := num_le s
  have l2 := int_le (Ed.num s).2
  have l3 := int_le (Ed.int (Ed.num s).2).2
  have l4 := int_le (Ed.int (Ed.int (Ed.num s).2).2).2
  have l5 := num_le (Ed.int (Ed.int (Ed.int (Ed.num s).2).2).2).2
  have l6 := num_le (Ed.num (Ed.int (Ed.int (Ed.int (Ed.num s).2).2).2).2).2
  have l7 := key_le (Ed.num (Ed.num (Ed.int (Ed.int (Ed.int (Ed.num s).2).2).2).2).2).2
  have l8 := key_le (Ed.key (Ed.num (Ed.num (Ed.int (Ed.int (Ed.int (Ed.num s).2).2).2).2).2).2).2
  omega
theorem num_less (s : Ed.St) (h : (Ed.num s).2.bad = false) : (Ed.num s).2.rest.length + 1 ≤ s.rest.length := by
  obtain ⟨h1, h2, h3⟩ := Ed.num_reads.1 s h
  have e := congrArg List.length h2
  rw [List.length_append] at e
  have := (Nm.row_length (Ed.num s).1).1
  omega

/-- What is still to be read, behind some. -/
def Ed.cont {α : Type} (xs : List α) (r : List α × Ed.St) : List α × Ed.St := (xs ++ r.1, r.2)
theorem Ed.cont_end {α : Type} (f : Ed.St → α × Ed.St) (xs : List α) (s : Ed.St) : Ed.cont xs (Ed.many f 0 s) = (xs, s) := by simp [Ed.cont, Ed.many]
theorem Ed.cont_bad {α : Type} (f : Ed.St → α × Ed.St) (xs : List α) (n : Nat) (s : Ed.St) (h : s.bad = true) : Ed.cont xs (Ed.many f n s) = (xs, s) := by
  cases n with
  | zero => exact Ed.cont_end f xs s
  | succ n => rw [Ed.many, if_pos h]; simp [Ed.cont]
theorem Ed.cont_next {α : Type} (f : Ed.St → α × Ed.St) (xs : List α) (n : Nat) (s : Ed.St) (h : s.bad = false) : Ed.cont xs (Ed.many f (n + 1) s) = Ed.cont (xs ++ [(f s).1]) (Ed.many f n (f s).2) := by
  rw [Ed.many, if_neg (by rw [h]; simp)]
  simp [Ed.cont]

set_option maxHeartbeats 4000000 in
theorem tables_any (b : Nat) (s : Ed.St) (w : World) (h : RdS w b s) (hs : s.rest.length ≤ 1000000) :
    Calls Try.prog 70 #[.pointer (some ⟨b, 0, none⟩)] w (ReadTb b (Ed.lst Ed.tab s) w) := by
  obtain ⟨i0, hi, hz0, hz1, hz2⟩ := info_parts info_tb
  have hlt : b < w.heap.size := Sk.heap_lt h
  have HN := Lib.hid (number_any b s w h (by omega))
  have hcb := num_bound s
  have hcl := num_le s
  have HE : Hid (Ed.lst Ed.tab s = Ed.cont [] (Ed.many Ed.tab ((Ed.num s).1 - 0) (Ed.num s).2)) := Lib.hid (by unfold Ed.lst Ed.cont; simp)
  generalize Ed.lst Ed.tab s = R at *
  generalize Ed.num s = x at *
  obtain ⟨n, s1⟩ := x
  dsimp only at HN hcb hcl HE
  have hl1 : s1.rest.length ≤ 1000000 := by omega
  clear hcl hs h
  go_enter Try.func70, Try.ntmps70
  go_wp2_with fail
  refine HN.out.mono ?_
  rintro e w1 ⟨rfl, hr1, ht1⟩
  have HR1 := Lib.hid hr1
  have HT1 := Lib.hid ht1
  clear hr1 ht1
  go_wp2_with fail
  go_loopw [3] (fun u wr => ∃ (ts : List Tbl) (s' : Ed.St), R = Ed.cont ts (Ed.many Ed.tab (n - ts.length) s') ∧ ts.length ≤ n ∧ ts.length ≤ 1000001 ∧ (s'.bad = false → ts.length + s'.rest.length ≤ 1000000) ∧ s'.rest.length ≤ 1000000 ∧ OwnsTb wr w.heap.size u ts ∧ RdS wr b s' ∧ Turns (At b) w wr) (fun u _ => n - lenOf u)
  case atStart => exact ⟨[], s1, HE.out, Nat.zero_le _, by simp, fun _ => by simpa using hl1, hl1, OwnsTb.nil _ _, HR1.out, HT1.out⟩
  case round =>
    obtain ⟨ts, ⟨l, bad⟩, hR, htn, htl, hbs, hrl, hown, hrd, htu⟩ := hrel
    obtain ⟨c0, c1, f0, f1, hltr⟩ := Rd.cells hrd
    obtain ⟨ao, cap, rfl⟩ := hown.slice
    dsimp only at hbs hrl c0 c1
    have HR := Lib.hid hR; have HO := Lib.hid hown; have HD := Lib.hid hrd; have HTU := Lib.hid htu
    have hwz : IntKind.u64.wrap (ts.length : Int) = ts.length := wrap_nat _ (by omega)
    clear HE HR1 HT1 hR hown hrd htu
    cases bad with
    | true =>
      have HZ : Hid (R = (ts, ⟨l, true⟩)) := Lib.hid (by rw [HR.out, Ed.cont_bad _ _ _ _ rfl])
      go_wp2_with fail
      go_ret
      exact ⟨_, rfl, by rw [HZ.out]; exact HO.out, by rw [HZ.out]; exact HD.out, HTU.out⟩
    | false =>
      have hbs := hbs rfl
      by_cases hlt2 : ts.length < n
      · obtain ⟨j, hj⟩ : ∃ j, n - ts.length = j + 1 := ⟨n - ts.length - 1, by omega⟩
        have HZ : Hid (R = Ed.cont (ts ++ [(Ed.tab ⟨l, false⟩).1]) (Ed.many Ed.tab j (Ed.tab ⟨l, false⟩).2)) := Lib.hid (by rw [HR.out, hj, Ed.cont_next _ _ _ _ rfl])
        have HTB := Lib.hid (fun (W : World) (hW : RdS W b ⟨l, false⟩) => table_any b ⟨l, false⟩ W hW (by simp only; omega))
        have t1 := tab_le ⟨l, false⟩
        have t2 := tab_less ⟨l, false⟩
        generalize Ed.tab ⟨l, false⟩ = y at *
        obtain ⟨t, s2⟩ := y
        dsimp only at t1 t2 HZ HTB
        unfold tbV at HTB
        have HJ : Hid (n - (ts.length + 1) = j) := Lib.hid (by omega)
        have HTL : Hid (ts.length + 1 ≤ 1000001 ∧ (s2.bad = false → ts.length + 1 + s2.rest.length ≤ 1000000) ∧ s2.rest.length ≤ 1000000) := Lib.hid ⟨by omega, fun hb => by have := t2 hb; omega, by omega⟩
        clear hj t1 t2 HR
        go_wp2_with fail
        refine (HTB.out _ HD.out).mono ?_
        rintro e w2 ⟨rfl, hr2, ht2⟩
        have hraw : w2.ownsRow w.heap.size 38 8 (.slice ao ts.length cap) ts.length (ts.flatMap cellsTb) := HO.out.turns ht2 hlt
        have hsz2 : w.heap.size ≤ w2.heap.size := (HTU.out.trans ht2 (fun _ hx => Or.inl hx)).size
        have HR2 := Lib.hid hr2; have HT2 : Hid (Turns (At b) w w2) := Lib.hid (At.trans HTU.out ht2)
        clear hr2 ht2
        go_wp2_with (at_builtin; go_must (refine wpList_append_own _ rfl _ _ 26 rfl w.heap.size 38 i0 _ 8 80 Try.underlying26 hi hz0 hz1 hz2 rfl (by decide) _ _ _ rfl (hraw.alloc _) ⟨w2.heap.size, 0, none⟩ 1 1 (cellsTb t) rfl rfl (World.news_of_block (cs := #[_, _, _, _, _, _, _, _]) (fr := (0, 0)) (heap_alloc_new w2 _)) ?c2 ?c3 ?c4 ?c5 ?_))
        case c2 => intro u hu; simp [cellsTb] at hu; rcases hu with hu | hu | hu | hu | hu | hu | hu | hu <;> subst hu <;> rfl
        case c3 => have := HTL.out.1; unfold maxLen; omega
        case c4 => have := HTL.out.1; omega
        case c5 => simp; omega
        intro v2 w3 hown2 hgrow2 _
        have R1 : OwnsTb w3 w.heap.size v2 (ts ++ [t]) := OwnsTb.snoc hown2
        have hbelow : Below w.heap.size w2 w3 := ((Below.refl _ w2).alloc hsz2 _).grown hgrow2 (by simp; omega) (fun q hq => (hraw.lt q hq).1)
        have R2 : RdS w3 b s2 := (hbelow.block b hlt).trans HR2.out
        have R3 : Turns (At b) w w3 := ⟨hbelow.os.trans HT2.out.os, hbelow.tape.trans HT2.out.tape, hbelow.output.trans HT2.out.output, Nat.le_trans HT2.out.size hbelow.size, fun k hk hp => (hbelow.block k hk).trans (HT2.out.block k hk hp)⟩
        obtain ⟨ao2, cap2, rfl⟩ := R1.slice
        have HR1 := Lib.hid R1; have HR2' := Lib.hid R2; have HR3 := Lib.hid R3
        clear hown2 hgrow2 hraw hbelow R1 R2 R3
        go_wp2_with fail
        go_roundw
        case rel => exact ⟨ts ++ [t], s2, by rw [List.length_append, List.length_singleton, HJ.out]; exact HZ.out, by simp; omega, by have := HTL.out.1; simp; omega, fun hb => by simp; exact HTL.out.2.1 hb, HTL.out.2.2, HR1.out, HR2'.out, HR3.out⟩
        case measure => simp [lenOf]; omega
      · have HZ : Hid (R = (ts, ⟨l, false⟩)) := Lib.hid (by rw [HR.out, show n - ts.length = 0 by omega, Ed.cont_end])
        go_wp2_with fail
        go_ret
        exact ⟨_, rfl, by rw [HZ.out]; exact HO.out, by rw [HZ.out]; exact HD.out, HTU.out⟩

theorem info_un : (Try.prog.info? 28).map (fun i => (i.zero, i.size, i.bytes)) = some (some (.int .u64 0), 1, 8) := by kernel_rfl
/-- Numbers were read. -/
def ReadN (b : Nat) (r : List Nat × Ed.St) (w : World) (e : Ending) (w' : World) : Prop := ∃ v, e = .returned v ∧ OwnsN w' w.heap.size v r.1 ∧ RdS w' b r.2 ∧ Turns (At b) w w'

set_option maxHeartbeats 4000000 in
theorem numbers_any (b : Nat) (s : Ed.St) (w : World) (h : RdS w b s) (hs : s.rest.length ≤ 1000000) :
    Calls Try.prog 71 #[.pointer (some ⟨b, 0, none⟩)] w (ReadN b (Ed.lst Ed.num s) w) := by
  obtain ⟨i0, hi, hz0, hz1, hz2⟩ := info_parts info_un
  have hlt : b < w.heap.size := Sk.heap_lt h
  have HN := Lib.hid (number_any b s w h (by omega))
  have hcb := num_bound s
  have hcl := num_le s
  have HE : Hid (Ed.lst Ed.num s = Ed.cont [] (Ed.many Ed.num ((Ed.num s).1 - 0) (Ed.num s).2)) := Lib.hid (by unfold Ed.lst Ed.cont; simp)
  generalize Ed.lst Ed.num s = R at *
  generalize hx : Ed.num s = x at *
  clear hx
  obtain ⟨n, s1⟩ := x
  dsimp only at HN hcb hcl HE
  have hl1 : s1.rest.length ≤ 1000000 := by omega
  clear hcl hs h
  go_enter Try.func71, Try.ntmps71
  go_wp2_with fail
  refine HN.out.mono ?_
  rintro e w1 ⟨rfl, hr1, ht1⟩
  have HR1 := Lib.hid hr1
  have HT1 := Lib.hid ht1
  clear hr1 ht1
  go_wp2_with fail
  go_loopw [3] (fun u wr => ∃ (ts : List Nat) (s' : Ed.St), R = Ed.cont ts (Ed.many Ed.num (n - ts.length) s') ∧ ts.length ≤ n ∧ ts.length ≤ 1000001 ∧ (s'.bad = false → ts.length + s'.rest.length ≤ 1000000) ∧ s'.rest.length ≤ 1000000 ∧ OwnsN wr w.heap.size u ts ∧ RdS wr b s' ∧ Turns (At b) w wr) (fun u _ => n - lenOf u)
  case atStart => exact ⟨[], s1, HE.out, Nat.zero_le _, by simp, fun _ => by simpa using hl1, hl1, OwnsN.nil _ _, HR1.out, HT1.out⟩
  case round =>
    obtain ⟨ts, ⟨l, bad⟩, hR, htn, htl, hbs, hrl, hown, hrd, htu⟩ := hrel
    obtain ⟨c0, c1, f0, f1, hltr⟩ := Rd.cells hrd
    obtain ⟨ao, cap, rfl⟩ := hown.slice
    dsimp only at hbs hrl c0 c1
    have HR := Lib.hid hR; have HO := Lib.hid hown; have HD := Lib.hid hrd; have HTU := Lib.hid htu
    have hwz : IntKind.u64.wrap (ts.length : Int) = ts.length := wrap_nat _ (by omega)
    clear HE HR1 HT1 hR hown hrd htu
    cases bad with
    | true =>
      have HZ : Hid (R = (ts, ⟨l, true⟩)) := Lib.hid (by rw [HR.out, Ed.cont_bad _ _ _ _ rfl])
      go_wp2_with fail
      go_ret
      exact ⟨_, rfl, by rw [HZ.out]; exact HO.out, by rw [HZ.out]; exact HD.out, HTU.out⟩
    | false =>
      have hbs := hbs rfl
      by_cases hlt2 : ts.length < n
      · obtain ⟨j, hj⟩ : ∃ j, n - ts.length = j + 1 := ⟨n - ts.length - 1, by omega⟩
        have HZ : Hid (R = Ed.cont (ts ++ [(Ed.num ⟨l, false⟩).1]) (Ed.many Ed.num j (Ed.num ⟨l, false⟩).2)) := Lib.hid (by rw [HR.out, hj, Ed.cont_next _ _ _ _ rfl])
        have HTB := Lib.hid (fun (W : World) (hW : RdS W b ⟨l, false⟩) => number_any b ⟨l, false⟩ W hW (by simp only; omega))
        have t1 := num_le ⟨l, false⟩
        have t2 := num_less ⟨l, false⟩
        generalize Ed.num ⟨l, false⟩ = y at *
        obtain ⟨t, s2⟩ := y
        dsimp only at t1 t2 HZ HTB
        have HJ : Hid (n - (ts.length + 1) = j) := Lib.hid (by omega)
        have HTL : Hid (ts.length + 1 ≤ 1000001 ∧ (s2.bad = false → ts.length + 1 + s2.rest.length ≤ 1000000) ∧ s2.rest.length ≤ 1000000) := Lib.hid ⟨by omega, fun hb => by have := t2 hb; omega, by omega⟩
        clear hj t1 t2 HR
        go_wp2_with fail
        refine (HTB.out _ HD.out).mono ?_
        rintro e w2 ⟨rfl, hr2, ht2⟩
        have hraw : w2.ownsRow w.heap.size 28 1 (.slice ao ts.length cap) ts.length (ts.map (fun n => Value.int .u64 (n : Nat))) := HO.out.turns ht2 hlt
        have hsz2 : w.heap.size ≤ w2.heap.size := (HTU.out.trans ht2 (fun _ hx => Or.inl hx)).size
        have HR2 := Lib.hid hr2; have HT2 : Hid (Turns (At b) w w2) := Lib.hid (At.trans HTU.out ht2)
        clear hr2 ht2
        go_wp2_with (at_builtin; go_must (refine wpList_append_own _ rfl _ _ 27 rfl w.heap.size 28 i0 _ 1 8 Try.underlying27 hi hz0 hz1 hz2 rfl (by decide) _ _ _ rfl (hraw.alloc _) ⟨w2.heap.size, 0, none⟩ 1 1 [.int .u64 (t : Nat)] rfl rfl (World.news_of_block (cs := #[_]) (fr := (0, 0)) (heap_alloc_new w2 _)) ?c2 ?c3 ?c4 ?c5 ?_))
        case c2 => intro u hu; simp at hu; subst hu; rfl
        case c3 => have := HTL.out.1; unfold maxLen; omega
        case c4 => have := HTL.out.1; omega
        case c5 => simp; omega
        intro v2 w3 hown2 hgrow2 _
        have R1 : OwnsN w3 w.heap.size v2 (ts ++ [t]) := OwnsN.snoc hown2
        have hbelow : Below w.heap.size w2 w3 := ((Below.refl _ w2).alloc hsz2 _).grown hgrow2 (by simp; omega) (fun q hq => (hraw.lt q hq).1)
        have R2 : RdS w3 b s2 := (hbelow.block b hlt).trans HR2.out
        have R3 : Turns (At b) w w3 := ⟨hbelow.os.trans HT2.out.os, hbelow.tape.trans HT2.out.tape, hbelow.output.trans HT2.out.output, Nat.le_trans HT2.out.size hbelow.size, fun k hk hp => (hbelow.block k hk).trans (HT2.out.block k hk hp)⟩
        obtain ⟨ao2, cap2, rfl⟩ := R1.slice
        have HR1 := Lib.hid R1; have HR2' := Lib.hid R2; have HR3 := Lib.hid R3
        clear hown2 hgrow2 hraw hbelow R1 R2 R3
        go_wp2_with fail
        go_roundw
        case rel => exact ⟨ts ++ [t], s2, by rw [List.length_append, List.length_singleton, HJ.out]; exact HZ.out, by simp; omega, by have := HTL.out.1; simp; omega, fun hb => by simp; exact HTL.out.2.1 hb, HTL.out.2.2, HR1.out, HR2'.out, HR3.out⟩
        case measure => simp [lenOf]; omega
      · have HZ : Hid (R = (ts, ⟨l, false⟩)) := Lib.hid (by rw [HR.out, show n - ts.length = 0 by omega, Ed.cont_end])
        go_wp2_with fail
        go_ret
        exact ⟨_, rfl, by rw [HZ.out]; exact HO.out, by rw [HZ.out]; exact HD.out, HTU.out⟩

end Go.Proofs.Ytbdoekogoiijeaa
