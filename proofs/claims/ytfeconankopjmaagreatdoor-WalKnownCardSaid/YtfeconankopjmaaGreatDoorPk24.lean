/- Texts on the program's own functions, several in one: WlD, WlC, WlRep, WlDisc. -/
import Derived.Test.YtfeconankopjmaaGreatDoorPk21
import Derived.Test.YtfeconankopjmaaGreatDoorPk23
import Derived.Test.YtfeconankopjmaaGreatDoorPk20
import Derived.Deep.RegionHeld3
import Derived.Test.YtfeconankopjmaaGreatDoorPk27

/- The walk of wal.Log.Add. -/
namespace Go.Proofs.YtfeconankopjmaaGreatDoor
set_option linter.unusedVariables false
open Go.RowKit Go.Maps
open Dk (Dir Chg Disk File Str)

theorem LogAt.cells {w : World} {g d N : Nat} (h : LogAt w g d N) : w.cell? ⟨g, 0, none⟩ = some (.int .u64 N) ∧ w.cell? ⟨g, 1, none⟩ = some (.func (.func 41) #[.pointer (some ⟨d, 0, none⟩)] #[]) ∧
    w.cell? ⟨g, 2, none⟩ = some (.func (.func 42) #[.pointer (some ⟨d, 0, none⟩)] #[]) := by
  refine ⟨?_, ?_, ?_⟩ <;> (rw [cell_of h]; first | rfl | (unfold logCells; rfl))
theorem equalIn_func_nil (W : World) (d : Nat) (t : TypeId) (fn : Fn) (x y : Array Value) (ps rs : Array TypeId) (v : Bool) (h : Tryz.prog.underlying t = some (.func ps rs v)) :
    (Op.equalIn (d + 1) t (.func fn x y) .nilFunc).run Tryz.prog W = .ok false W := by
  simp [Op.equalIn, run_underlying h]
theorem func_nil (fn : Fn) (x y : Array Value) (W : World) : (binOp .eql 93 (.func fn x y) .nilFunc).run Tryz.prog W = .ok (.bool false) W := by
  simp only [binOp]
  simp [show Op.equal 93 (.func fn x y) .nilFunc = Op.equalIn (9999 + 1) 93 (.func fn x y) .nilFunc from rfl, equalIn_func_nil W 9999 _ fn x y _ _ _ Tryz.underlying93]
theorem seesS_one {w : World} {B : Nat} {s : ByteArray} {t : TypeId} (h : w.heap[B]? = some (.cells #[.string s] t (0, 0))) : SeesS w (.slice (some ⟨B, 0, none⟩) 1 1) [s] := by
  have hc : w.cell? ⟨B, 0, none⟩ = some (.string s) := by simp [World.cell?, h]
  refine Or.inr ⟨B, 0, 1, rfl, World.block_lt_of_cell? w _ hc, fun i hi => ?_⟩
  match i, hi with
  | 0, _ => exact hc

set_option maxHeartbeats 2000000 in
set_option maxRecDepth 100000 in
/-- A batch that is none. -/
theorem add_bad (w : World) (g : Nat) (d N : Nat) (hl : LogAt w g d N) (seq : Nat) (ao : Option Addr) (len cap : Nat) (ops : List Bn.Ob) (hS : Bn.SeesO w (.slice ao len cap) ops) (hs : seq < 18446744073709551616) (hc : Bn.Bt.chk seq ops ≠ 0) :
    Calls Tryz.prog 10 #[.pointer (some ⟨g, 0, none⟩), Bn.batV seq ao len cap] w fun e w' => e = .returned (errV (Bn.Bt.chk seq ops : Nat)) ∧ Below w.heap.size w w' := by
  have hbx : Below w.heap.size w (w.alloc (.cells #[.int .u64 seq, .slice ao len cap] 32)) := (Below.refl _ _).alloc (Nat.le_refl _) _
  have hlx := hl.below hbx
  obtain ⟨c0, c1, c2⟩ := hlx.cells
  have HBX := Lib.hid hbx
  have hfn := func_nil
  have HE := Lib.hid (fun W (hb : Below w.heap.size w W) => Bn.encode_no seq ao len cap ops W (hS.below hb) hs hc)
  have HC := Lib.hid hc
  unfold errV
  have hcn : ¬ ((Bn.Bt.chk seq ops : Nat) : Int) = 0 := by omega
  generalize Bn.Bt.chk seq ops = E at *
  clear hc hS hl hlx hbx
  unfold Bn.batV at HE ⊢
  go_enter Tryz.func10, Tryz.ntmps10
  go_wp2_with fail
  refine (HE.out _ HBX.out).mono ?_
  rintro e w1 ⟨rfl, hb⟩
  go_wp2_with fail
  go_ret
  exact ⟨rfl, Below.next HBX.out hb⟩

theorem cell_length {b : Wl.Bat} (h : Wl.chk b = 0) : (Wl.cell b).length ≤ 14000 := by
  have h1 := Wl.row_small h
  unfold Wl.cell
  rw [Cr.frame_length]
  unfold Cr.cells
  omega
set_option maxHeartbeats 4000000 in
set_option maxRecDepth 100000 in
/-- A batch is put behind the others. -/
theorem add_good {L : Lay} {S : Disk} {n m base : Nat} (w : World) (h : Holds w L S) (G : Dk.Good n m S) (hn : n < 3999) (hm : m ≤ 90000000) (g N : Nat) (hl : LogAt w g L.d N) (hg : ¬ Own L g) (hN : N < 18446744073709551616) (K : Knows base w) (hbase : base ≤ w.heap.size) (ho : ∀ b, Own L b → base ≤ b)
    (seq : Nat) (ao : Option Addr) (len cap : Nat) (ops : List Bn.Ob) (hS : Bn.SeesO w (.slice ao len cap) ops) (hs : seq < 18446744073709551616) (hc : Bn.Bt.chk seq ops = 0) :
    Calls Tryz.prog 10 #[.pointer (some ⟨g, 0, none⟩), Bn.batV seq ao len cap] w fun e w' => e = .returned (errV (Wl.put S N (Wl.cell (seq, ops))).1) ∧ Goes L w (Wl.put S N (Wl.cell (seq, ops))).2 w' := by
  have hbx : Below w.heap.size w (w.alloc (.cells #[.int .u64 seq, .slice ao len cap] 32)) := (Below.refl _ _).alloc (Nat.le_refl _) _
  obtain ⟨c0, c1, c2⟩ := (hl.below hbx).cells
  have HBX := Lib.hid hbx
  have hfn := func_nil
  have hgl : g < w.heap.size := heap_lt hl
  have HE := Lib.hid (fun W (hb : Below w.heap.size w W) => Bn.encode_yes seq ao len cap ops W (hS.below hb) hs hc)
  have hrs := Wl.row_small (b := (seq, ops)) hc
  have HRS : Hid ((Wl.row (seq, ops)).size ≤ 10000) := Lib.hid hrs
  have hcl := cell_length (b := (seq, ops)) hc
  have HWR : Hid (∀ (W : World) (B : Nat), Below w.heap.size w W → W.heap[B]? = some (.cells #[.string (Wl.row (seq, ops))] 9 (0, 0)) → Calls Tryz.prog 44 #[.slice (some ⟨B, 0, none⟩) 1 1] W (Gives (.tuple #[.string ⟨(Wl.cell (seq, ops)).toArray⟩, .int .i64 0]) W)) := Lib.hid (fun W B hb hB => by
    have h1 := write_any (some ⟨B, 0, none⟩) 1 1 [Wl.row (seq, ops)] W (seesS_one hB) (K.next (hb.mono hbase)).here (by intro s hs; simp only [List.mem_singleton] at hs; subst hs; omega) (by omega)
    rw [wrV_ok (by intro s hs; simp only [List.mem_singleton] at hs; subst hs; omega), Cr.frames_one] at h1
    exact h1)
  have HNM := Lib.hid (fun W (hb : Below base w W) => nameOf_any N W hN (K.next hb).pow)
  have HBO := Lib.hid (And.intro hbase ho)
  have hsz := nm_size hN
  have G1 := G.append (Wl.nm N) (Wl.cell (seq, ops))
  have HAP := Lib.hid (fun (W : World) (hb : Below w.heap.size w W) => (show Calls _ _ _ W (fun e w' => e = .returned (errV (S.append (Wl.nm N) (Wl.cell (seq, ops))).1) ∧ Goes L W (S.append (Wl.nm N) (Wl.cell (seq, ops))).2 w') from append_any W (h.below hb) (fits_wide G (by omega) (by omega)) ⟨(Wl.nm N).toArray⟩ ⟨(Wl.cell (seq, ops)).toArray⟩ (by unfold maxLen; omega) (by show (⟨(Wl.cell (seq, ops)).toArray⟩ : ByteArray).size ≤ _; simp [ByteArray.size]; omega)))
  have erow : (⟨(Bn.Bt.encl seq ops).toArray⟩ : ByteArray) = Wl.row (seq, ops) := rfl
  have HE2 : Hid (∀ W, Below w.heap.size w W → Calls Tryz.prog 43 #[.agg #[.int .u64 seq, .slice ao len cap]] W (Gives (.tuple #[.string (Wl.row (seq, ops)), .int .i64 0]) W)) := Lib.hid (fun W hb => HE.out W hb)
  obtain ⟨R, hR⟩ : ∃ R, R = Wl.put S N (Wl.cell (seq, ops)) := ⟨_, rfl⟩
  rw [← hR]
  unfold Wl.put at hR
  obtain ⟨str, hstr⟩ : ∃ str, str = (⟨(Wl.nm N).toArray⟩ : ByteArray) := ⟨_, rfl⟩
  have HSL : Hid (str.data.toList = Wl.nm N) := Lib.hid (by rw [hstr])
  have HSZ : Hid (str.size ≤ 24) := Lib.hid (by rw [hstr]; exact hsz)
  rw [← hstr] at HNM HAP
  generalize Wl.cell (seq, ops) = C at *
  generalize Wl.row (seq, ops) = row at *
  obtain ⟨cst, hcst⟩ : ∃ cst, cst = (⟨C.toArray⟩ : ByteArray) := ⟨_, rfl⟩
  rw [← hcst] at HAP HWR
  generalize S.append (Wl.nm N) C = X at *
  obtain ⟨E, T⟩ := X
  have HG1 : Hid (Dk.Good (n + 1) (m + 14000) T) := Lib.hid (G1.mono (Nat.le_refl _) (by omega))
  have HGN := Lib.hid hg
  have HLA : Hid (LogAt w g L.d N) := Lib.hid hl
  dsimp only at hR HAP
  clear G1 hstr hcst erow hsz hcl hrs HRS K hbase ho hc hS h G hbx HE hl hg
  unfold Bn.batV
  have hmf : ∀ (fn : Fn) (first cap : Array Value) (w : World), (Instr.makeFunc fn first cap).run Tryz.prog w = .ok (.func fn first cap) w := fun _ _ _ _ => rfl
  by_cases h0 : E = 0
  · subst h0
    rw [if_pos rfl] at hR
    go_enter Tryz.func10, Tryz.ntmps10
    go_wp2_with fail
    refine (HE2.out _ HBX.out).mono ?_
    rintro e w1 ⟨rfl, hb1⟩
    have HB1 := Lib.hid (Below.next HBX.out hb1); clear hb1
    go_wp2_with fail
    refine (HWR.out _ w1.heap.size (Below.next_alloc HB1.out _) (heap_alloc_new w1 _)).mono ?_
    rintro e w2 ⟨rfl, hb2⟩
    have HB2 := Lib.hid (Below.next (Below.next_alloc HB1.out _) hb2); clear hb2
    obtain ⟨c0, c1, c2⟩ := (HLA.out.below HB2.out).cells
    go_wp2_with fail
    go_region_held3 (fun w' => w'.cell? ⟨g, 0, none⟩ = some (.int .u64 N) ∧ w'.cell? ⟨g, 1, none⟩ = some (.func (.func 41) #[.pointer (some ⟨L.d, 0, none⟩)] #[]))
      (first
        | go_keep
        | (go_split_ands
           have hl3 := (HLA.out.below (Below.next HB2.out.drew hb3)).cells
           exact ⟨hl3.1, hl3.2.1⟩)
        | (go_split_ands
           have hl3 := HLA.out.below (Below.next HB2.out.drew hb3)
           have hl4 := LogAt.cells (show LogAt w4 g L.d N from (hg4.kept (heap_lt hl3) HGN.out).trans hl3)
           exact ⟨hl4.1, hl4.2.1⟩))
      (first
        | (go_at_call 39; refine (HNM.out _ (HB2.out.drew.mono HBO.out.1)).mono ?_; rintro e w3 ⟨rfl, hb3⟩)
        | (go_at_call 41; refine (HAP.out _ (Below.next HB2.out.drew hb3)).mono ?_; rintro e w4 ⟨rfl, hg4⟩))
    have HB3 := Lib.hid (Below.next HB2.out.drew hb3)
    have HG4 := Lib.hid hg4
    unfold errV
    clear hb3 hg4
    have HL4 : Hid (LogAt w4 g L.d N) := Lib.hid ((HG4.out.kept (heap_lt (HLA.out.below HB3.out)) HGN.out).trans (HLA.out.below HB3.out))
    have HS4 : Hid (w.heap.size ≤ w4.heap.size ∧ Turns (Own L) w w4) := Lib.hid (by
      obtain ⟨L4, _, _, ht4, _⟩ := HG4.out.after HB3.out
      exact ⟨ht4.size, ht4⟩)
    obtain ⟨L4, hd4, hh4, ht4, ho4⟩ := HG4.out
    have HNG : Hid (¬ Own L4 g) := Lib.hid (fun ho => by
      rcases ho4 g ho with h1 | h1
      · exact HGN.out h1
      · have := heap_lt (HLA.out.below HB3.out); omega)
    have HSY := Lib.hid (fun (W : World) (hb : Below w4.heap.size w4 W) => sync_any W (hh4.below hb) (fits_wide HG1.out (by omega) (by omega)) str (by have := HSZ.out; unfold maxLen; omega))
    rw [hd4, HSL.out] at HSY
    have HW4 := Lib.hid (And.intro hd4 (And.intro ht4 ho4))
    have HB4 : Hid (Below base w w4) := Lib.hid (HS4.out.2.to_below HBO.out.1 HBO.out.2)
    clear hd4 ht4 ho4 hh4
    generalize T.sync (Wl.nm N) = Y at *
    obtain ⟨E2, T2⟩ := Y
    dsimp only at HSY
    have HR := Lib.hid hR; clear hR
    clear c0 c1 c2
    obtain ⟨c0, c1, c2⟩ := HL4.out.cells
    go_wp2_with fail
    go_region_held3 (fun w' => w'.cell? ⟨g, 0, none⟩ = some (.int .u64 N) ∧ w'.cell? ⟨g, 2, none⟩ = some (.func (.func 42) #[.pointer (some ⟨L.d, 0, none⟩)] #[]))
      (first
        | go_keep
        | (go_split_ands
           have hl5 := (HL4.out.below (Below.next (Below.refl w4.heap.size w4).drew hb5)).cells
           exact ⟨hl5.1, hl5.2.2⟩)
        | (go_split_ands
           have hl5 := HL4.out.below (Below.next (Below.refl w4.heap.size w4).drew hb5)
           have hl6 := LogAt.cells (show LogAt w6 g L.d N from (hg6.kept (heap_lt hl5) HNG.out).trans hl5)
           exact ⟨hl6.1, hl6.2.2⟩))
      (first
        | (go_at_call 39; refine (HNM.out _ HB4.out.drew).mono ?_; rintro e w5 ⟨rfl, hb5⟩)
        | (go_at_call 42; refine (HSY.out _ (Below.next (Below.refl w4.heap.size w4).drew hb5)).mono ?_; rintro e w6 ⟨rfl, hg6⟩))
    have HB5 : Hid (Below w4.heap.size w4 w5) := Lib.hid (Below.next (Below.refl w4.heap.size w4).drew hb5)
    have HG6 := Lib.hid hg6
    unfold errV
    clear hb5 hg6
    go_wp2_with fail
    go_ret
    obtain rfl := HR.out
    exact ⟨rfl, (Goes.trans HW4.out.1 HW4.out.2.1 HW4.out.2.2 (HG6.out.after HB5.out)).after HB3.out⟩
  · rw [if_neg h0] at hR
    have HR := Lib.hid hR; clear hR
    go_enter Tryz.func10, Tryz.ntmps10
    go_wp2_with fail
    refine (HE2.out _ HBX.out).mono ?_
    rintro e w1 ⟨rfl, hb1⟩
    have HB1 := Lib.hid (Below.next HBX.out hb1); clear hb1
    go_wp2_with fail
    refine (HWR.out _ w1.heap.size (Below.next_alloc HB1.out _) (heap_alloc_new w1 _)).mono ?_
    rintro e w2 ⟨rfl, hb2⟩
    have HB2 := Lib.hid (Below.next (Below.next_alloc HB1.out _) hb2); clear hb2
    obtain ⟨c0, c1, c2⟩ := (HLA.out.below HB2.out).cells
    go_wp2_with fail
    go_region_held3 (fun w' => w'.cell? ⟨g, 0, none⟩ = some (.int .u64 N) ∧ w'.cell? ⟨g, 1, none⟩ = some (.func (.func 41) #[.pointer (some ⟨L.d, 0, none⟩)] #[]))
      (first
        | go_keep
        | (go_split_ands
           have hl3 := (HLA.out.below (Below.next HB2.out.drew hb3)).cells
           exact ⟨hl3.1, hl3.2.1⟩)
        | (go_split_ands
           have hl3 := HLA.out.below (Below.next HB2.out.drew hb3)
           have hl4 := LogAt.cells (show LogAt w4 g L.d N from (hg4.kept (heap_lt hl3) HGN.out).trans hl3)
           exact ⟨hl4.1, hl4.2.1⟩))
      (first
        | (go_at_call 39; refine (HNM.out _ (HB2.out.drew.mono HBO.out.1)).mono ?_; rintro e w3 ⟨rfl, hb3⟩)
        | (go_at_call 41; refine (HAP.out _ (Below.next HB2.out.drew hb3)).mono ?_; rintro e w4 ⟨rfl, hg4⟩))
    have HB3 := Lib.hid (Below.next HB2.out.drew hb3)
    have HG4 := Lib.hid hg4
    unfold errV
    clear hb3 hg4
    go_wp2_with fail
    go_ret
    obtain rfl := HR.out
    exact ⟨rfl, HG4.out.after HB3.out⟩

end Go.Proofs.YtfeconankopjmaaGreatDoor

/- The walk of wal.batchesOf. -/
namespace Go.Proofs.YtfeconankopjmaaGreatDoor
set_option linter.unusedVariables false
open Go.RowKit

def BatsRead (bs : List Wl.Bat) (w : World) (e : Ending) (w' : World) : Prop := ∃ v, e = .returned v ∧ OwnsB w' w.heap.size v bs ∧ Below w.heap.size w w'
theorem upto_end (rs : List ByteArray) : Wl.upto (rs.drop rs.length) = [] := by rw [List.drop_length]; rfl
theorem upto_stop {rs : List ByteArray} {k : Nat} {r : ByteArray} (h : rs[k]? = some r) (hn : Bn.Bt.decl r.data.toList = none) : Wl.upto (rs.drop k) = [] := by
  obtain ⟨hk, rfl⟩ := List.getElem?_eq_some_iff.1 h
  rw [List.drop_eq_getElem_cons hk, Wl.upto, hn]
theorem upto_go {rs : List ByteArray} {k : Nat} {r : ByteArray} {b : Wl.Bat} (h : rs[k]? = some r) (hn : Bn.Bt.decl r.data.toList = some b) : Wl.upto (rs.drop k) = b :: Wl.upto (rs.drop (k + 1)) := by
  obtain ⟨hk, rfl⟩ := List.getElem?_eq_some_iff.1 h
  rw [List.drop_eq_getElem_cons hk, Wl.upto, hn]

set_option maxHeartbeats 4000000 in
set_option maxRecDepth 100000 in
theorem batchesOf_any (s : ByteArray) (w : World) (hT : Tab w) (hs : s.size ≤ 1000000000) :
    Calls Tryz.prog 50 #[.string s] w (BatsRead (Wl.bats s.data.toList) w) := by
  obtain ⟨i0, hi, hz0, hz1, hz2⟩ := info_parts info_bat
  have HRD := Lib.hid (fread_any s w hT hs)
  obtain ⟨_, hw, _, _, hsm, hln⟩ := Cr.rda_spec _ _ _ _ (Nat.le_refl _) (rfl : Cr.rda s.data.toList = ((Cr.rda s.data.toList).1, (Cr.rda s.data.toList).2))
  obtain ⟨R, hR⟩ : ∃ R, R = Wl.bats s.data.toList := ⟨_, rfl⟩
  rw [← hR]
  unfold Wl.bats at hR
  rw [show s.data.toList.length = s.size by simp] at hw
  generalize Cr.rda s.data.toList = P at *
  obtain ⟨rs, q⟩ := P
  dsimp only at hw hsm hln hR
  obtain ⟨n, hn⟩ : ∃ n, n = rs.length := ⟨_, rfl⟩
  have hn2 : (n : Int) ≤ 1000000000 := by omega
  have HSM := Lib.hid hsm
  have HR : Hid (R = [] ++ Wl.upto (rs.drop 0)) := Lib.hid (by rw [hR]; rfl)
  have HN := Lib.hid hn
  clear hsm hln hw hR hT hs hn
  go_enter Tryz.func50, Tryz.ntmps50
  go_wp2_with fail
  refine HRD.out.mono ?_
  rintro e w1 ⟨v, rfl, hown, hb⟩
  obtain ⟨ao, cap, rfl⟩ : ∃ ao cap, v = .slice ao n cap := by
    have e := HN.out
    rcases hown.2 with ⟨rfl, h0⟩ | ⟨g, cap, cur, rfl, _⟩
    · exact ⟨none, 0, by rw [e, h0]⟩
    · exact ⟨_, _, by rw [e]⟩
  have HO : Hid (w1.ownsRow w.heap.size 9 1 (.slice ao n cap) n (rs.map .string)) := Lib.hid (by rw [HN.out]; rw [HN.out] at hown; exact hown)
  have HB := Lib.hid hb
  clear hown hb HRD
  go_wp2_with fail
  go_loopw [3, 17] (fun u z wr => ∃ (k : Nat) (bs : List Wl.Bat), k ≤ n ∧ z = .int .i64 (k : Int) ∧ Hid (bs.length ≤ k ∧ R = bs ++ Wl.upto (rs.drop k) ∧ wr.ownsRow w.heap.size 9 1 (.slice ao n cap) n (rs.map .string) ∧ OwnsB wr w.heap.size u bs ∧ Below w.heap.size w wr)) (fun _ z _ => n - (intOf z).toNat)
  case atStart => exact ⟨0, [], by omega, rfl, Lib.hid ⟨Nat.le_refl _, HR.out, HO.out, OwnsB.nil _ _, HB.out⟩⟩
  case round =>
    obtain ⟨k, bs, hk, rfl, HK⟩ := hrel
    clear HO HB HR
    by_cases hlt : k < n
    · have hlt2 : (k : Int) < n := by omega
      obtain ⟨r, hr⟩ : ∃ r, rs[k]? = some r := ⟨_, List.getElem?_eq_getElem (by have := HN.out; omega)⟩
      obtain ⟨g, hg, c0⟩ := row_at HK.out.2.2.1 (k := k) (v := .string r) (by rw [List.getElem?_map, hr]; rfl) hlt
      subst hg
      have hsz := HSM.out r (List.mem_of_getElem? hr)
      cases hd : Bn.Bt.decl r.data.toList with
      | none =>
        have HD := Lib.hid (fun W => Bn.decode_any r W (by omega))
        rw [hd] at HD
        have HE : Hid (R = bs) := Lib.hid (by rw [HK.out.2.1, upto_stop hr hd, List.append_nil])
        clear hr hsz hd
        go_wp2_with fail
        refine (HD.out _).mono ?_
        rintro e w2 ⟨hb2, ⟨_, rfl⟩ | ⟨_, _, _, _, h, _⟩⟩
        case inr => cases h
        have HB2 := Lib.hid hb2; clear hb2 HD c0
        unfold Bn.batV
        go_wp2_with fail
        go_ret
        rw [HE.out]
        exact ⟨_, rfl, (HK.out.2.2.2.1.below HB2.out).below ((Below.refl _ _).alloc (Nat.le_refl _) _), Below.next_alloc (Below.next HK.out.2.2.2.2 HB2.out) _⟩
      | some b =>
        have HD := Lib.hid (fun W => Bn.decode_any r W (by omega))
        rw [hd] at HD
        have HE : Hid (R = bs ++ [b] ++ Wl.upto (rs.drop (k + 1))) := Lib.hid (by rw [HK.out.2.1, upto_go hr hd]; simp)
        clear hr hsz hd
        go_wp2_with fail
        refine (HD.out _).mono ?_
        rintro e w2 ⟨hb2, ⟨h, _⟩ | ⟨seq, os, a2, c2, h, rfl, hos⟩⟩
        case inl => cases h
        simp only [Option.some.injEq] at h
        subst h
        have HB2 := Lib.hid hb2; have HOS := Lib.hid hos; clear hb2 hos HD c0
        unfold Bn.batV
        obtain ⟨m, hm⟩ : ∃ m, m = os.length := ⟨_, rfl⟩
        rw [← hm] at HOS
        rw [← hm]
        have HM := Lib.hid hm; clear hm
        obtain ⟨ps, hr0, ha0⟩ := HK.out.2.2.2.1
        have hraw := ownsRow_below hr0 HB2.out
        have HARE := Lib.hid (ha0.below HB2.out)
        have hb0 := Below.next HK.out.2.2.2.2 HB2.out
        have hsz := hb0.size
        have HBL : Hid (bs.length ≤ 1000000000) := Lib.hid (by have := HK.out.1; omega)
        have HWS := Lib.hid HK.out.2.2.2.2.size
        have HRW := Lib.hid (ownsRow_below HK.out.2.2.1 HB2.out)
        clear hr0 ha0
        go_wp2_with (at_builtin; go_must (refine wpList_append_own _ rfl _ _ 36 rfl w.heap.size 32 i0 _ 2 32 Tryz.underlying36 hi hz0 hz1 hz2 rfl (by decide) _ _ _ rfl ((hraw.alloc _).alloc _) ⟨w2.heap.size + 1, 0, none⟩ 1 1 [_, _] rfl rfl (World.news_of_block (cs := #[_, _]) (fr := (0, 0)) (heap_alloc2_new w2 _ _)) ?c2 ?c3 ?c4 ?c5 ?_))
        case c2 => intro u hu; simp at hu; rcases hu with hu | hu <;> subst hu <;> rfl
        case c3 => have := HBL.out; unfold maxLen; omega
        case c4 => have := HBL.out; omega
        case c5 => simp; omega
        intro v2 w3 hown2 hgrow2 _
        have hb3 : Below w.heap.size w w3 := ((hb0.alloc hsz _).alloc (by simp; omega) _).grown hgrow2 (by simp; omega) (fun q hq => (hraw.lt q hq).1)
        obtain ⟨W, hW⟩ : ∃ W, W = (w2.alloc (.cells #[.int .u64 (seq : Nat), .slice a2 m c2] 32)).alloc (.cells #[.int .u64 (seq : Nat), .slice a2 m c2] 32) := ⟨_, rfl⟩
        have hbw : Below w2.heap.size w2 W := by rw [hW]; exact ((Below.refl _ _).alloc (Nat.le_refl _) _).alloc (by simp) _
        have hrw : W.ownsRow w.heap.size 32 2 u3 bs.length (ps.flatMap cellsB) := by rw [hW]; exact (hraw.alloc _).alloc _
        rw [← hW] at hgrow2
        have hrs := ownsRow_below HRW.out hbw
        have R1 : OwnsB w3 w.heap.size v2 (bs ++ [(seq, os)]) ∧ w3.ownsRow w.heap.size 9 1 (.slice (some ⟨g, 0, none⟩) n cap) n (rs.map .string) := by
          refine ⟨⟨ps ++ [(seq, .slice a2 m c2)], ?_, ?_⟩, ?_⟩
          · rw [List.length_append, List.flatMap_append, List.flatMap_singleton]
            exact hown2
          · have h1 := (HARE.out.append (qs := [(seq, .slice a2 m c2)]) (cs := [(seq, os)]) ⟨rfl, ownsRow_mono (by rw [← HM.out]; have := HOS.out; unfold Bn.OwnsO at this; rw [← HM.out] at this; exact this) HWS.out, trivial⟩).below hbw
            exact h1.grown hgrow2 hrw
          · refine ownsRow_frame hrs fun b hb => hgrow2.block b (ownsRow_lt hrs hb) fun e => ?_
            obtain ⟨cur, hc⟩ := ownsRow_obj hrs hb
            obtain ⟨cur2, hc2⟩ := ownsRow_obj hrw e.symm
            rw [hc] at hc2
            simp only [Option.some.injEq, Obj.cells.injEq] at hc2
            exact absurd hc2.2.1 (by decide)
        clear hW hrw hrs
        have HR1 := Lib.hid R1; have HB3 := Lib.hid hb3
        clear R1 hb3 hown2 hgrow2 hraw hbw hb0 hsz
        go_wp2_with fail
        go_roundw
        case rel => exact ⟨k + 1, _, by omega, by go_num, Lib.hid ⟨by rw [List.length_append]; have := HK.out.1; simp; omega, HE.out, HR1.out.2, HR1.out.1, HB3.out⟩⟩
        case measure => simp [intOf]; omega
    · obtain rfl : k = n := by omega
      have hlt2 : ¬ ((k : Nat) : Int) < (k : Nat) := by omega
      have HE : Hid (R = bs) := Lib.hid (by rw [HK.out.2.1, HN.out, upto_end, List.append_nil])
      go_wp2_with fail
      go_ret
      rw [HE.out]
      exact ⟨_, rfl, HK.out.2.2.2.1, HK.out.2.2.2.2⟩

end Go.Proofs.YtfeconankopjmaaGreatDoor

/- The walk of wal.Replay over a disk that lies in memory. -/
namespace Go.Proofs.YtfeconankopjmaaGreatDoor
set_option linter.unusedVariables false
open Go.RowKit Go.Maps
open Dk (Dir Chg Disk File Str)

theorem upto_length : ∀ rs : List ByteArray, (Wl.upto rs).length ≤ rs.length
  | [] => Nat.le_refl _
  | r :: rs => by
    have h := upto_length rs
    rw [Wl.upto]
    split
    · rw [List.length_cons, List.length_cons]; omega
    · simp
theorem bats_length (l : Str) : (Wl.bats l).length ≤ l.length := by
  have h := Cr.rda_spec _ l _ _ (Nat.le_refl _) (rfl : Cr.rda l = ((Cr.rda l).1, (Cr.rda l).2))
  have h1 := upto_length (Cr.rda l).1
  unfold Wl.bats
  have := h.2.1
  have := h.2.2.2.2.2
  omega
theorem data_length {n m : Nat} {S : Disk} (G : Dk.Good n m S) (N : Nat) : (Wl.data S N).length ≤ m := by
  unfold Wl.data Disk.read
  split
  · simp
  · split
    · simp
    · exact G.dat _
theorem told_end (S : Disk) (f : Nat) (us : List Nat) : Wl.told S f (us.drop us.length) = [] := by rw [List.drop_length]; rfl
theorem told_skip {S : Disk} {f : Nat} {us : List Nat} {k N : Nat} (h : us[k]? = some N) (hn : N < f) : Wl.told S f (us.drop k) = Wl.told S f (us.drop (k + 1)) := by
  obtain ⟨hk, rfl⟩ := List.getElem?_eq_some_iff.1 h
  rw [List.drop_eq_getElem_cons hk, Wl.told, if_pos hn]
theorem told_take {S : Disk} {f : Nat} {us : List Nat} {k N : Nat} (h : us[k]? = some N) (hn : ¬ N < f) : Wl.told S f (us.drop k) = Wl.bats (Wl.data S N) ++ Wl.told S f (us.drop (k + 1)) := by
  obtain ⟨hk, rfl⟩ := List.getElem?_eq_some_iff.1 h
  rw [List.drop_eq_getElem_cons hk, Wl.told, if_neg hn]

set_option maxHeartbeats 1000000 in
set_option maxRecDepth 100000 in
theorem replay_down {L : Lay} {S : Disk} {n m : Nat} (w : World) (h : Holds w L S) (G : Dk.Good n m S) (f : Nat) (hd : S.down = true) :
    Calls Tryz.prog 13 #[.pointer (some ⟨L.d, 0, none⟩), .int .u64 f] w fun e w' => e = .returned (.tuple #[.slice none 0 0, .int .i64 7]) ∧ w' = w := by
  have H := wbarred_any w h G
  have e : wbarV S = .int .i64 7 := by unfold wbarV; rw [if_pos hd]
  rw [e] at H
  replace H := Lib.hid H
  clear h e hd G
  go_enter Tryz.func13, Tryz.ntmps13
  go_wp2_with fail
  refine H.out.mono ?_
  rintro e w1 ⟨rfl, rfl⟩
  go_wp2_with fail
  go_ret2
  exact ⟨rfl, rfl⟩

set_option maxHeartbeats 8000000 in
set_option maxRecDepth 100000 in
theorem replay_any {L : Lay} {S : Disk} {n m base : Nat} (w : World) (h : Holds w L S) (G : Dk.Good n m S) (hn : n ≤ 4000) (hm : m ≤ 100000000) (K : Knows base w) (hbase : base ≤ w.heap.size) (hr : Rise (Wl.nums S.now)) (hfew : (Wl.nums S.now).length ≤ 400) (f : Nat) (hd : S.down = false) :
    Calls Tryz.prog 13 #[.pointer (some ⟨L.d, 0, none⟩), .int .u64 f] w fun e w' => ∃ v, e = .returned (.tuple #[v, .int .i64 0]) ∧ OwnsB w' w.heap.size v (Wl.replay S f) ∧ Below w.heap.size w w' := by
  obtain ⟨i0, hi, hz0, hz1, hz2⟩ := info_parts info_bat
  have HBA := wbarred_any w h G
  rw [show wbarV S = .int .i64 0 by unfold wbarV; rw [if_neg (by simp [hd])]] at HBA
  replace HBA := Lib.hid HBA
  have HLO := Lib.hid (logs_any w h G hn hm K hbase hr hfew)
  have HNM := Lib.hid (fun (W : World) (hb : Below w.heap.size w W) (N : Nat) (hN : N < 18446744073709551616) => nameOf_any N W hN (K.next (hb.mono hbase)).pow)
  have HRE := Lib.hid (fun (W : World) (hb : Below w.heap.size w W) (N : Nat) (hN : N < 18446744073709551616) => (show Calls _ _ _ W (fun e w' => e = .returned (.tuple #[.string ⟨(Wl.data S N).toArray⟩, .int .i64 (S.read (Wl.nm N)).2]) ∧ w' = W) from read_any W (h.below hb) ⟨(Wl.nm N).toArray⟩ (by have := nm_size hN; unfold maxLen; omega)))
  have HBO := Lib.hid (fun (W : World) (hb : Below w.heap.size w W) (N : Nat) => (show Calls _ _ _ W (BatsRead (Wl.bats (Wl.data S N)) W) from batchesOf_any ⟨(Wl.data S N).toArray⟩ W (K.next (hb.mono hbase)).here (by have := data_length G N; show (⟨(Wl.data S N).toArray⟩ : ByteArray).size ≤ _; simp [ByteArray.size]; omega)))
  obtain ⟨M, hM⟩ : ∃ M : Nat, M = 100000000 := ⟨_, rfl⟩
  have HBL : Hid (∀ N, (Wl.bats (Wl.data S N)).length ≤ M) := Lib.hid (fun N => by rw [hM]; exact Nat.le_trans (bats_length (Wl.data S N)) (Nat.le_trans (data_length G N) hm))
  have HM := Lib.hid hM
  have HLT := Lib.hid (nums_lt (d := S.now))
  obtain ⟨R, hR⟩ : ∃ R, R = Wl.replay S f := ⟨_, rfl⟩
  rw [← hR]
  unfold Wl.replay at hR
  have HQ2 := Lib.hid hfew
  generalize hU : Wl.nums S.now = us at *
  obtain ⟨q, hq⟩ : ∃ q, q = us.length := ⟨_, rfl⟩
  rw [← hq] at HLO
  have HQ := Lib.hid hq
  have HR : Hid (R = [] ++ Wl.told S f (us.drop 0)) := Lib.hid (by rw [hR]; rfl)
  have hq2 : (q : Int) ≤ 400 := by omega
  clear hU hR h G K hbase hr hfew hd hq hn hm hM
  go_enter Tryz.func13, Tryz.ntmps13
  go_wp2_with fail
  refine HBA.out.mono ?_
  rintro e w1 ⟨rfl, rfl⟩
  go_wp2_with fail
  refine HLO.out.mono ?_
  rintro e w2 ⟨v, rfl, hrow, hb⟩
  obtain ⟨ao, cap, rfl⟩ := row_shape hrow
  have HB1 := Lib.hid hb
  have HRW := Lib.hid hrow
  clear hrow hb HBA HLO
  go_wp2_with fail
  go_loopw [7, 20] (fun u z wr => ∃ (k : Nat) (bs : List Wl.Bat), k ≤ q ∧ z = .int .i64 (k : Int) ∧ Hid (R = bs ++ Wl.told S f (us.drop k) ∧ bs.length ≤ k * M ∧ wr.ownsRow w1.heap.size 28 1 (.slice ao q cap) q (numCells us) ∧ OwnsB wr w1.heap.size u bs ∧ Below w1.heap.size w1 wr)) (fun _ z _ => q - (intOf z).toNat)
  case atStart => exact ⟨0, [], by omega, rfl, Lib.hid ⟨HR.out, Nat.zero_le _, HRW.out, OwnsB.nil _ _, HB1.out⟩⟩
  case round =>
    obtain ⟨k, bs, hk, rfl, HK⟩ := hrel
    clear HRW HB1 HR
    by_cases hlt : k < q
    · have hlt2 : (k : Int) < q := by omega
      obtain ⟨N, hN⟩ : ∃ N, us[k]? = some N := ⟨_, List.getElem?_eq_getElem (by have := HQ.out; omega)⟩
      obtain ⟨g, hg, c0⟩ := row_at HK.out.2.2.1 (k := k) (v := .int .u64 (N : Nat)) (by unfold numCells; rw [List.getElem?_map, hN]; rfl) hlt
      subst hg
      have hNl := HLT.out N (List.mem_of_getElem? hN)
      by_cases hf : N < f
      · have hf2 : (N : Int) < f := by omega
        have HE : Hid (R = bs ++ Wl.told S f (us.drop (k + 1))) := Lib.hid (by rw [HK.out.1, told_skip hN hf])
        clear hN hf
        go_wp2_with fail
        go_roundw
        case rel => exact ⟨k + 1, bs, by omega, by go_num, Lib.hid ⟨HE.out, by have := HK.out.2.1; rw [Nat.succ_mul]; omega, HK.out.2.2⟩⟩
        case measure => simp [intOf]; omega
      · have hf2 : ¬ (N : Int) < f := by omega
        have HE : Hid (R = bs ++ Wl.bats (Wl.data S N) ++ Wl.told S f (us.drop (k + 1))) := Lib.hid (by rw [HK.out.1, told_take hN hf, List.append_assoc])
        have HN2 := Lib.hid (fun W hb => HNM.out W hb N hNl)
        have HR2 := Lib.hid (fun W hb => HRE.out W hb N hNl)
        have HB2 := Lib.hid (fun W hb => HBO.out W hb N)
        have HLL := Lib.hid (HBL.out N)
        clear hN hf hNl
        generalize Wl.bats (Wl.data S N) = cs at *
        generalize (⟨(Wl.nm N).toArray⟩ : ByteArray) = str at *
        generalize (⟨(Wl.data S N).toArray⟩ : ByteArray) = dat at *
        generalize (S.read (Wl.nm N)).2 = E2 at *
        go_wp2_with fail
        refine (HN2.out _ HK.out.2.2.2.2).mono ?_
        rintro e w3 ⟨rfl, hb3⟩
        have HB3 := Lib.hid (Below.next HK.out.2.2.2.2 hb3)
        have HX3 := Lib.hid hb3
        clear hb3 c0
        go_wp2_with fail
        refine (HR2.out _ HB3.out).mono ?_
        rintro e w4 ⟨rfl, hw⟩
        subst w4
        go_wp2_with fail
        refine (HB2.out _ HB3.out).mono ?_
        rintro e w4 ⟨vb, rfl, hob, hb4⟩
        have HB4 := Lib.hid (Below.next HB3.out hb4)
        have HX4 := Lib.hid (Below.next HX3.out hb4)
        obtain ⟨ps, hr0, ha0⟩ := HK.out.2.2.2.1
        have hraw := ownsRow_below hr0 HX4.out
        have HARE := Lib.hid (ha0.below HX4.out)
        obtain ⟨qs, hx0, hxa⟩ := hob
        have HS3 : Hid (w1.heap.size ≤ w4.heap.size ∧ w1.heap.size ≤ w3.heap.size) := Lib.hid ⟨HB4.out.size, HB3.out.size⟩
        have HXA := Lib.hid (hxa.mono HS3.out.2)
        have HRW := Lib.hid (ownsRow_below HK.out.2.2.1 HX4.out)
        have HBX : Hid (bs.length + cs.length ≤ 1000000000000) := Lib.hid (by have := HK.out.2.1; have := HLL.out; have := Nat.mul_le_mul_right M (show k ≤ 400 by omega); have := HM.out; omega)
        clear hr0 ha0 hb4
        go_wp2_with (at_builtin; go_must (refine wpList_append_row rfl _ _ 36 rfl w1.heap.size w3.heap.size 32 i0 _ 2 32 Tryz.underlying36 hi hz0 hz1 hz2 rfl (by decide) _ _ _ rfl hraw _ _ _ rfl hx0 ?c2 ?c3 ?c4 ?c5 ?_))
        case c2 => exact hxa.one
        case c3 => have := HBX.out; unfold maxLen; omega
        case c4 => have := HBX.out; omega
        case c5 => exact HS3.out.1
        intro v2 w5 hown2 hgrow2
        have hb5 : Below w1.heap.size w1 w5 := HB4.out.grown hgrow2 HS3.out.1 (fun q hq => (hraw.lt q hq).1)
        have R1 : OwnsB w5 w1.heap.size v2 (bs ++ cs) ∧ w5.ownsRow w1.heap.size 28 1 (.slice (some ⟨g, 0, none⟩) q cap) q (numCells us) := by
          refine ⟨⟨ps ++ qs, ?_, ?_⟩, ?_⟩
          · rw [List.length_append, List.flatMap_append]
            exact hown2
          · exact (HARE.out.append HXA.out).grown hgrow2 hraw
          · refine ownsRow_frame HRW.out fun b hb => hgrow2.block b (ownsRow_lt HRW.out hb) fun e => ?_
            obtain ⟨cur, hc⟩ := ownsRow_obj HRW.out hb
            obtain ⟨cur2, hc2⟩ := ownsRow_obj hraw e.symm
            rw [hc] at hc2
            simp only [Option.some.injEq, Obj.cells.injEq] at hc2
            exact absurd hc2.2.1 (by decide)
        have HR1 := Lib.hid R1; have HB5 := Lib.hid hb5
        clear R1 hb5 hown2 hgrow2 hraw hx0 hxa
        go_wp2_with fail
        go_roundw
        case rel => exact ⟨k + 1, bs ++ cs, by omega, by go_num, Lib.hid ⟨HE.out, by rw [List.length_append, Nat.succ_mul]; have := HK.out.2.1; have := HLL.out; omega, HR1.out.2, HR1.out.1, HB5.out⟩⟩
        case measure => simp [intOf]; omega
    · obtain rfl : k = q := by omega
      have hlt2 : ¬ ((k : Nat) : Int) < (k : Nat) := by omega
      have HE : Hid (R = bs) := Lib.hid (by rw [HK.out.1, HQ.out, told_end, List.append_nil])
      go_wp2_with fail
      go_ret2
      rw [HE.out]
      exact ⟨_, rfl, HK.out.2.2.2.1, HK.out.2.2.2.2⟩

end Go.Proofs.YtfeconankopjmaaGreatDoor

/- The calls of wal over a disk of the call's own, and logs of it. -/
namespace Go.Proofs.YtfeconankopjmaaGreatDoor
set_option linter.unusedVariables false
open Go.RowKit Go.Maps
open Dk (Dir Chg Disk File Str)

theorem good_put {n m : Nat} {S : Disk} (G : Dk.Good n m S) (N : Nat) (s : Str) : Dk.Good (n + 2) (m + s.length) (Wl.put S N s).2 := by
  unfold Wl.put
  have h1 := G.append (Wl.nm N) s
  dsimp only
  split
  · exact h1.sync _
  · exact h1.mono (by omega) (Nat.le_refl _)
theorem good_add {n m : Nat} {S : Disk} (G : Dk.Good n m S) (N : Nat) (b : Wl.Bat) : Dk.Good (n + 2) (m + 14000) (Wl.add S N b).2 := by
  unfold Wl.add
  split
  · rename_i h
    exact (good_put G N _).mono (Nat.le_refl _) (by have := cell_length h; omega)
  · exact G.mono (by omega) (by omega)
theorem good_beg {n m : Nat} {S : Disk} (G : Dk.Good n m S) (N : Nat) : Dk.Good (n + 2) m (Wl.beg S N).2 := by
  unfold Wl.beg
  have h1 := G.create (Wl.nm N)
  dsimp only
  split
  · exact h1.dirSync
  · exact h1.mono (by omega) (Nat.le_refl _)
theorem good_dels : ∀ (us : List Nat) {n m : Nat} {S : Disk} (f : Nat), Dk.Good n m S → Dk.Good (n + us.length) m (Wl.dels S f us).2
  | [], n, m, S, f, G => G
  | N :: us, n, m, S, f, G => by
    rw [Wl.dels]
    split
    · exact G.mono (by simp) (Nat.le_refl _)
    · have h1 := G.delete (Wl.nm N)
      dsimp only
      split
      · have := good_dels us f h1
        rw [List.length_cons, Nat.add_comm us.length 1, ← Nat.add_assoc]
        exact this
      · exact h1.mono (by rw [List.length_cons]; omega) (Nat.le_refl _)
theorem good_retire {n m : Nat} {S : Disk} (G : Dk.Good n m S) (f : Nat) (h : (Wl.nums S.now).length ≤ 400) : Dk.Good (n + 400) m (Wl.retire S f).2 := by
  unfold Wl.retire
  split
  · exact G.mono (by omega) (Nat.le_refl _)
  · exact (good_dels _ f G).mono (by omega) (Nat.le_refl _)

/-- A log that can be gone on with. -/
structure Live (w : World) (L : Lay) (g d N : Nat) : Prop where
  at' : LogAt w g d N
  off : ¬ Own L g
theorem Live.below {w w' : World} {L : Lay} {g d N : Nat} (h : Live w L g d N) (hb : Below w.heap.size w w') : Live w' L g d N := ⟨h.at'.below hb, h.off⟩
theorem Live.goes {w w' : World} {L L' : Lay} {g d N : Nat} (h : Live w L g d N) (ht : Turns (Own L) w w') (ho : ∀ b, Own L' b → Own L b ∨ w.heap.size ≤ b) : Live w' L' g d N :=
  ⟨(ht.block g (heap_lt h.at') h.off).trans h.at', fun hg => by
    rcases ho g hg with h1 | h1
    · exact h.off h1
    · have := heap_lt h.at'; omega⟩
/-- What is not the disk's is as it was. -/
def Kept (w : World) (L : Lay) (w' : World) (L' : Lay) : Prop := ∀ (g : Nat) (o : Obj), w.heap[g]? = some o → ¬ Own L g → w'.heap[g]? = some o ∧ ¬ Own L' g
theorem Kept.of_turns {w w' : World} {L L' : Lay} (ht : Turns (Own L) w w') (ho : ∀ b, Own L' b → Own L b ∨ w.heap.size ≤ b) : Kept w L w' L' := fun g o hg hn =>
  ⟨(ht.block g (heap_lt hg) hn).trans hg, fun h => by
    rcases ho g h with h1 | h1
    · exact hn h1
    · have := heap_lt hg; omega⟩
theorem Kept.live {w w' : World} {L L' : Lay} (h : Kept w L w' L') {g d N : Nat} (hl : Live w L g d N) : Live w' L' g d N := ⟨(h g _ hl.at' hl.off).1, (h g _ hl.at' hl.off).2⟩
theorem Kept.below {w w1 w' : World} {L L' : Lay} (hb : Below w.heap.size w w1) (h : Kept w1 L w' L') : Kept w L w' L' := fun g o hg hn => h g o ((hb.block g (heap_lt hg)).trans hg) hn
theorem Kept.trans {w w1 w' : World} {L L1 L' : Lay} (h : Kept w L w1 L1) (k : Kept w1 L1 w' L') : Kept w L w' L' := fun g o hg hn => k g o (h g o hg hn).1 (h g o hg hn).2
/-- A row that is not the disk's. -/
def Off (L : Lay) (v : Value) : Prop := ∀ b, v.ownBlock = some b → ¬ Own L b
theorem Kept.row {w w' : World} {L L' : Lay} (h : Kept w L w' L') {base : Nat} {e : TypeId} {z n : Nat} {v : Value} {xs : List Value} (hr : w.ownsRow base e z v n xs) (ho : Off L v) : w'.ownsRow base e z v n xs ∧ Off L' v := by
  refine ⟨ownsRow_frame hr fun b hb => ?_, fun b hb => ?_⟩
  · obtain ⟨cur, hc⟩ := ownsRow_obj hr hb
    rw [hc]; exact (h b _ hc (ho b hb)).1
  · obtain ⟨cur, hc⟩ := ownsRow_obj hr hb
    exact (h b _ hc (ho b hb)).2
/-- The disk went on, and the logs are there still. -/
def Onward (w : World) (base : Nat) (L : Lay) (S' : Disk) (n' m' : Nat) (w' : World) : Prop :=
  ∃ L', L'.d = L.d ∧ Disc w' base L' S' n' m' ∧ Below base w w' ∧ Kept w L w' L'
theorem Disc.onward {w w' : World} {base : Nat} {L : Lay} {S S' : Disk} {n m n' m' : Nat} (h : Disc w base L S n m) (hg : Goes L w S' w') (G : Dk.Good n' m' S') : Onward w base L S' n' m' w' := by
  obtain ⟨L', hld, hh, ht, ho⟩ := hg
  refine ⟨L', hld, ⟨hh, G, fun b hb => ?_, Nat.le_trans h.lo ht.size⟩, ht.to_below h.lo h.own, Kept.of_turns ht ho⟩
  rcases ho b hb with h1 | h1
  · exact h.own b h1
  · exact Nat.le_trans h.lo h1

theorem begin_disc {w : World} {base : Nat} {L : Lay} {S : Disk} {n m : Nat} (D : Disc w base L S n m) (hn : n < 4000) (hm : m ≤ 100000000) (N : Nat) (hN : N < 18446744073709551616) (K : Knows base w) :
    Calls Tryz.prog 9 #[.pointer (some ⟨L.d, 0, none⟩), .int .u64 N] w fun e w' => ∃ p L', e = .returned (.tuple #[.pointer p, errV (Wl.beg S N).1]) ∧ L'.d = L.d ∧ Disc w' base L' (Wl.beg S N).2 (n + 2) m ∧ Below base w w' ∧ Kept w L w' L' ∧
      (((Wl.beg S N).1 = 0 ∧ ∃ g, p = some ⟨g, 0, none⟩ ∧ Live w' L' g L.d N) ∨ ((Wl.beg S N).1 ≠ 0 ∧ p = none)) := by
  refine (begin_any w D.holds D.good hn hm N hN K).mono ?_
  rintro e w' ⟨p, rfl, L', hld, hh, ht, ho, hc⟩
  obtain ⟨L2, rfl⟩ : ∃ L2, L2 = L' := ⟨_, rfl⟩
  refine ⟨p, L2, rfl, hld, ⟨hh, good_beg D.good N, fun b hb => ?_, Nat.le_trans D.lo ht.size⟩, ht.to_below D.lo D.own, Kept.of_turns ht ho, ?_⟩
  · rcases ho b hb with h1 | h1
    · exact D.own b h1
    · exact Nat.le_trans D.lo h1
  · rcases hc with ⟨h0, g, hp, hl, _, hg⟩ | h
    · exact Or.inl ⟨h0, g, hp, hl, hg⟩
    · exact Or.inr h
theorem add_disc {w : World} {base : Nat} {L : Lay} {S : Disk} {n m : Nat} (D : Disc w base L S n m) (hn : n < 3999) (hm : m ≤ 90000000) {g N : Nat} (hl : Live w L g L.d N) (hN : N < 18446744073709551616) (K : Knows base w)
    (seq : Nat) (ao : Option Addr) (len cap : Nat) (ops : List Bn.Ob) (hS : Bn.SeesO w (.slice ao len cap) ops) (hs : seq < 18446744073709551616) :
    Calls Tryz.prog 10 #[.pointer (some ⟨g, 0, none⟩), Bn.batV seq ao len cap] w fun e w' => e = .returned (errV (Wl.add S N (seq, ops)).1) ∧ Onward w base L (Wl.add S N (seq, ops)).2 (n + 2) (m + 14000) w' := by
  by_cases hc : Bn.Bt.chk seq ops = 0
  · refine (add_good w D.holds D.good hn hm g N hl.at' hl.off hN K D.lo D.own seq ao len cap ops hS hs hc).mono ?_
    rintro e w' ⟨rfl, hg⟩
    have e : Wl.add S N (seq, ops) = Wl.put S N (Wl.cell (seq, ops)) := if_pos hc
    have G := good_add D.good N (seq, ops)
    rw [e] at G ⊢
    exact ⟨rfl, D.onward hg G⟩
  · refine (add_bad w g L.d N hl.at' seq ao len cap ops hS hs hc).mono ?_
    rintro e w' ⟨rfl, hb⟩
    have e : Wl.add S N (seq, ops) = (((Bn.Bt.chk seq ops : Nat) : Int), S) := if_neg hc
    rw [e]
    refine ⟨rfl, D.onward ?_ (D.good.mono (by omega) (by omega))⟩
    exact ⟨L, rfl, D.holds.below hb, Turns.of_below hb, fun b hb => Or.inl hb⟩
theorem retire_disc {w : World} {base : Nat} {L : Lay} {S : Disk} {n m : Nat} (D : Disc w base L S n m) (hn : n ≤ 3000) (hm : m ≤ 100000000) (K : Knows base w) (hr : Rise (Wl.nums S.now)) (hfew : (Wl.nums S.now).length ≤ 400) (f : Nat) (hd : S.down = false) :
    Calls Tryz.prog 15 #[.pointer (some ⟨L.d, 0, none⟩), .int .u64 f] w fun e w' => e = .returned (errV (Wl.retire S f).1) ∧ Onward w base L (Wl.retire S f).2 (n + 400) m w' := by
  refine (retire_any w D.holds D.good hn hm K D.lo D.own hr hfew f hd).mono ?_
  rintro e w' ⟨rfl, hg⟩
  exact ⟨rfl, D.onward hg (good_retire D.good f (by omega))⟩

end Go.Proofs.YtfeconankopjmaaGreatDoor
