/- The document's own answers for layer 13: Encode. -/
import Derived.Test.YtlhokfildhcdhaaEdR
namespace Go.Proofs.Ytlhokfildhcdhaa
open Go.RowKit Sk
set_option linter.unusedVariables false

set_option maxHeartbeats 4000000 in
theorem encref_no (ao : Option Addr) (an ac : Nat) (bo : Option Addr) (bn bc : Nat) (e : Edt) (w : World) (hA : SeesTb w (.slice ao an ac) e.add) (hD : SeesU w (.slice bo bn bc) e.drop) (hla : an ≤ 100000) (hlb : bn ≤ 1000000) (hk : Ed.chk e.add e.drop ≠ 0) :
    Calls Try.prog 20 #[edV ao an ac bo bn bc e.log e.seq e.next] w (Told [] 1 w) := by
  have HC : Hid (∀ W, SeesTb W (.slice ao an ac) e.add → SeesU W (.slice bo bn bc) e.drop → Calls Try.prog 21 #[.agg #[.slice ao an ac, .slice bo bn bc, .int .u64 (e.log : Nat), .int .u64 (e.seq : Nat), .int .u64 (e.next : Nat)]] W (Gives (.bool false) W)) := Lib.hid (fun W h1 h2 => by
    have := may_any ao an ac bo bn bc e W h1 h2 (by omega) (by omega)
    rw [decide_eq_false hk] at this
    exact this)
  have HA := Lib.hid hA; have HD := Lib.hid hD
  have HB : Hid (∀ o, Below w.heap.size w (w.alloc o)) := Lib.hid (fun o => (Below.refl _ _).alloc (Nat.le_refl _) _)
  clear hA hD hk
  unfold edV
  go_enter Try.func20, Try.ntmps20
  go_wp2_with fail
  refine (HC.out _ (HA.out.below (HB.out _)) (HD.out.below (HB.out _))).mono ?_
  rintro r w1 ⟨rfl, hb1⟩
  have HB1 := Lib.hid (Below.next (HB.out _) hb1)
  clear hb1
  go_wp2_with fail
  go_ret2
  exact ⟨rfl, HB1.out⟩

/-- The box of an edit, but for its tables. -/
abbrev EcS (w : World) (b : Nat) (bo : Option Addr) (bn bc lg sq nx : Nat) : Prop := w.cell? ⟨b, 1, none⟩ = some (.slice bo bn bc) ∧ w.cell? ⟨b, 2, none⟩ = some (.int .u64 (lg : Nat)) ∧ w.cell? ⟨b, 3, none⟩ = some (.int .u64 (sq : Nat)) ∧ w.cell? ⟨b, 4, none⟩ = some (.int .u64 (nx : Nat))
theorem EcS.of {w w' : World} {b : Nat} {bo : Option Addr} {bn bc lg sq nx : Nat} (h : EcS w b bo bn bc lg sq nx) {B : Nat} (hb : Below B w w') (hB : b < B) : EcS w' b bo bn bc lg sq nx :=
  ⟨(hb.cell (p := ⟨b, 1, none⟩) hB).trans h.1, (hb.cell (p := ⟨b, 2, none⟩) hB).trans h.2.1, (hb.cell (p := ⟨b, 3, none⟩) hB).trans h.2.2.1, (hb.cell (p := ⟨b, 4, none⟩) hB).trans h.2.2.2⟩

set_option maxRecDepth 100000 in
set_option maxHeartbeats 8000000 in
theorem encref_yes (ao : Option Addr) (an ac : Nat) (bo : Option Addr) (bn bc : Nat) (e : Edt) (w : World) (hA : SeesTb w (.slice ao an ac) e.add) (hD : SeesU w (.slice bo bn bc) e.drop) (hla : an ≤ 100000) (hlb : bn ≤ 1000000) (hI : Ed.In e) (hk : Ed.chk e.add e.drop = 0) :
    Calls Try.prog 20 #[edV ao an ac bo bn bc e.log e.seq e.next] w (EncSaid (Ed.enc e) w) := by
  have HC : Hid (∀ W, SeesTb W (.slice ao an ac) e.add → SeesU W (.slice bo bn bc) e.drop → Calls Try.prog 21 #[.agg #[.slice ao an ac, .slice bo bn bc, .int .u64 (e.log : Nat), .int .u64 (e.seq : Nat), .int .u64 (e.next : Nat)]] W (Gives (.bool true) W)) := Lib.hid (fun W h1 h2 => by
    have := may_any ao an ac bo bn bc e W h1 h2 (by omega) (by omega)
    rw [decide_eq_true hk] at this
    exact this)
  have HF := Lib.hid (Ed.fits_of hI hk)
  obtain ⟨hi1, hi2, hi3, hi4, hi5⟩ := hI
  obtain ⟨hal, ba, oa, hac⟩ := hA.get
  obtain ⟨hdl, bd, od, hdc⟩ := hD.get
  have HAC := Lib.hid hac; have HAL := Lib.hid hal
  have HB : Hid (∀ o, Below w.heap.size w (w.alloc o)) := Lib.hid (fun o => (Below.refl _ _).alloc (Nat.le_refl _) _)
  have HVa : Hid (∀ W, Calls Try.prog 39 #[.int .u64 (an : Nat)] W (Gives (.string ⟨(varl [an]).toArray⟩) W)) := Lib.hid (fun W => by
    have := refRow_any (an : Nat) W (by omega) (by omega)
    rw [Int.toNat_natCast] at this
    rw [show varl [an] = Nm.row an from by simp [varl]]
    exact this)
  have HVb : Hid (∀ W, Calls Try.prog 39 #[.int .u64 (bn : Nat)] W (Gives (.string ⟨(varl [bn]).toArray⟩) W)) := Lib.hid (fun W => by
    have := refRow_any (bn : Nat) W (by omega) (by omega)
    rw [Int.toNat_natCast] at this
    rw [show varl [bn] = Nm.row bn from by simp [varl]]
    exact this)
  have HVd : Hid (∀ W, SeesU W (.slice bo bn bc) e.drop → Calls Try.prog 40 #[.slice bo bn bc] W (Gives (.string ⟨(varl e.drop).toArray⟩) W)) := Lib.hid (fun W h => refVar_any _ _ _ e.drop W h (bound_u hi2) (by omega))
  have HVn : Hid (∀ W a c, SeesU W (.slice a 3 c) [e.log, e.seq, e.next] → Calls Try.prog 40 #[.slice a 3 c] W (Gives (.string ⟨(varl [e.log, e.seq, e.next]).toArray⟩) W)) := Lib.hid (fun W a c h => refVar_any _ _ _ _ W h (bound_u (by intro n hn; simp at hn; rcases hn with rfl | rfl | rfl <;> assumption)) (by omega))
  have HLa : Hid ((varl [an]).length ≤ 9) := Lib.hid (varl_length [an])
  have HLb : Hid ((varl [bn]).length ≤ 9) := Lib.hid (varl_length [bn])
  have HLn : Hid ((varl [e.log, e.seq, e.next]).length ≤ 27) := Lib.hid (varl_length [e.log, e.seq, e.next])
  have HLd : Hid ((varl e.drop).length ≤ 9000000) := Lib.hid (by have := varl_length e.drop; omega)
  have HE : Hid (Ed.enc e = varl [an] ++ (e.add.take an).flatMap Ed.tbRow ++ varl [bn] ++ varl e.drop ++ varl [e.log, e.seq, e.next]) := by
    refine Lib.hid ?_
    rw [← hal, List.take_length, Ed.enc, ← hdl]
    simp [varl]
  have HA := Lib.hid hA; have HD := Lib.hid hD
  clear hA hD hac hdc hal hk hi1 hi2 hi3 hi4 hi5 hdl
  generalize varl [an] = VA at *
  generalize varl [bn] = VB at *
  generalize varl e.drop = VD at *
  generalize varl [e.log, e.seq, e.next] = VN at *
  unfold edV
  go_enter Try.func20, Try.ntmps20
  go_wp2_with fail
  refine (HC.out _ (HA.out.below (HB.out _)) (HD.out.below (HB.out _))).mono ?_
  rintro r w1 ⟨rfl, hb1⟩
  have hz : w.heap.size < w1.heap.size := by have := hb1.size; simp at this; omega
  have HX1 : Hid (w1.heap[w.heap.size]? = some (.cells #[.slice ao an ac, .slice bo bn bc, .int .u64 (e.log : Nat), .int .u64 (e.seq : Nat), .int .u64 (e.next : Nat)] 38 (0, 0))) := Lib.hid (kept_block (heap_alloc_new w _) hb1)
  obtain ⟨e0, e1, e2, e3, e4, -, -⟩ : w1.cell? ⟨w.heap.size, 0, none⟩ = some (.slice ao an ac) ∧ w1.cell? ⟨w.heap.size, 1, none⟩ = some (.slice bo bn bc) ∧ w1.cell? ⟨w.heap.size, 2, none⟩ = some (.int .u64 (e.log : Nat)) ∧ w1.cell? ⟨w.heap.size, 3, none⟩ = some (.int .u64 (e.seq : Nat)) ∧ w1.cell? ⟨w.heap.size, 4, none⟩ = some (.int .u64 (e.next : Nat)) ∧ True ∧ True := ⟨Sk.cell_of (k := 0) HX1.out, Sk.cell_of (k := 1) HX1.out, Sk.cell_of (k := 2) HX1.out, Sk.cell_of (k := 3) HX1.out, Sk.cell_of (k := 4) HX1.out, trivial, trivial⟩
  have HB1 := Lib.hid (Below.next (HB.out _) hb1)
  clear hb1
  have hwa : IntKind.u64.wrap (an : Int) = an := wrap_nat _ (by omega)
  have hwb : IntKind.u64.wrap (bn : Int) = bn := wrap_nat _ (by omega)
  go_wp2_with fail
  refine (HVa.out _).mono ?_
  rintro r wq ⟨rfl, hb2⟩
  have HB2 : Hid (Below w1.heap.size w1 wq) := Lib.hid hb2
  clear hb2
  have HVS : Hid ((⟨VA.toArray⟩ : ByteArray) = ⟨(VA ++ (e.add.take 0).flatMap Ed.tbRow).toArray⟩) := Lib.hid (by simp)
  generalize (⟨VA.toArray⟩ : ByteArray) = VS at *
  have HX := Lib.hid (fun (wr : World) (h : Below w1.heap.size w1 wr) => kept_block HX1.out h)
  clear e0 e1 e2 e3 e4
  go_wp2_with fail
  go_loopw [4, 5] (fun s i wr => ∃ (k : Nat) (S : ByteArray), k ≤ an ∧ i = .int .i64 k ∧ s = .string S ∧ S = ⟨(VA ++ (e.add.take k).flatMap Ed.tbRow).toArray⟩ ∧ Below w1.heap.size w1 wr) (fun _ i _ => an - (intOf i).toNat)
  case atStart => exact ⟨0, VS, Nat.zero_le _, rfl, rfl, HVS.out, HB2.out⟩
  case round =>
    obtain ⟨k, S, hk, rfl, rfl, hS, hbel⟩ := hrel
    clear HVS HB2
    have hsz := hbel.size
    have hx := HX.out _ hbel
    have e0 : wr.cell? ⟨w.heap.size, 0, none⟩ = some (.slice ao an ac) := Sk.cell_of (k := 0) hx
    have HLT : Hid (((e.add.take k).flatMap Ed.tbRow).length ≤ 20000000) := by
      have h1 := Ed.rows_length (l := e.add.take k) (fun o ho => HF.out o (List.mem_of_mem_take ho))
      have h2 : (e.add.take k).length ≤ k := List.length_take_le ..
      exact Lib.hid (by omega)
    have hSs : S.size ≤ 20000009 := by rw [hS, size_mk, List.length_append]; have := HLa.out; have := HLT.out; omega
    have HS := Lib.hid hS; clear hS
    by_cases hlt : k < an
    · obtain ⟨rfl, hbl, hob⟩ := HAC.out k hlt
      obtain ⟨c0, c1, c2, c3, c4, c5, c6, c7⟩ := hob.below (Below.next HB1.out hbel) hbl
      have hbr : ba < wr.heap.size := by omega
      have hkl : k < e.add.length := by rw [HAL.out]; exact hlt
      have HR : Hid ((e.add.take (k + 1)).flatMap Ed.tbRow = (e.add.take k).flatMap Ed.tbRow ++ Ed.tbRow (e.add.getD k tbd)) := Lib.hid (Ed.rows_snoc e.add k hkl)
      have hfx := HF.out _ (Ed.getD_mem hkl)
      clear hob hkl hx
      generalize e.add.getD k tbd = x at *
      obtain ⟨n, lv, ct, sz, f, l, le, mo⟩ := x
      obtain ⟨hn, ⟨l0, l1⟩, ⟨t0, t1⟩, ⟨s0, s1⟩, hf, hl, hle, hmo⟩ := hfx
      obtain ⟨lv, rfl⟩ := Int.eq_ofNat_of_zero_le l0
      obtain ⟨ct, rfl⟩ := Int.eq_ofNat_of_zero_le t0
      obtain ⟨sz, rfl⟩ := Int.eq_ofNat_of_zero_le s0
      dsimp only at c0 c1 c2 c3 c4 c5 c6 c7 l1 t1 s1 hn hf hl hle hmo
      have HTS : Hid (Ed.tbRow ⟨n, (lv : Int), (ct : Int), (sz : Int), f, l, le, mo⟩ = varl [n, lv, ct, sz, le, mo] ++ textl [f, l]) := Lib.hid rfl
      rw [HTS.out] at HR
      obtain ⟨V, hV⟩ : ∃ V : ByteArray, V = ⟨(varl [n, lv, ct, sz, le, mo]).toArray⟩ := ⟨_, rfl⟩
      obtain ⟨T, hT⟩ : ∃ T : ByteArray, T = ⟨(textl [f, l]).toArray⟩ := ⟨_, rfl⟩
      have hVar : ∀ a W, SeesU W (.slice a 6 6) [n, lv, ct, sz, le, mo] → Calls Try.prog 40 #[.slice a 6 6] W (Gives (.string V) W) := fun a W h => by
        rw [hV]; exact refVar_any _ _ _ _ W h (fun i => by match i with
                                                           | 0 => simpa using hn
                                                           | 1 => show lv < _; omega
                                                           | 2 => show ct < _; omega
                                                           | 3 => show sz < _; omega
                                                           | 4 => show le < _; omega
                                                           | 5 => show mo < _; omega
                                                           | i + 6 => simp) (by omega)
      have hText : ∀ a W, SeesS W (.slice a 2 2) [f, l] → Calls Try.prog 41 #[.slice a 2 2] W (Gives (.string T) W) := fun a W h => by
        rw [hT]; exact refText_any _ _ _ [f, l] W h (by omega) (by simp [suml]; omega)
      have hU : ∀ {w : World} {B : Nat}, w.heap[B]? = some (.cells #[.int .u64 (n : Nat), .int .u64 (lv : Nat), .int .u64 (ct : Nat), .int .u64 (sz : Nat), .int .u64 (le : Nat), .int .u64 (mo : Nat)] 27 (0, 0)) → SeesU w (.slice (some ⟨B, 0, none⟩) 6 6) [n, lv, ct, sz, le, mo] := fun h => seesU_heap h rfl (fun i hi => by
        match i, hi with
        | 0, _ => rfl
        | 1, _ => rfl
        | 2, _ => rfl
        | 3, _ => rfl
        | 4, _ => rfl
        | 5, _ => rfl)
      have HV1 : Hid (∀ W : World, Calls Try.prog 40 #[.slice (some ⟨W.heap.size, 0, none⟩) 6 6] (W.alloc (.cells #[.int .u64 (n : Nat), .int .u64 (lv : Nat), .int .u64 (ct : Nat), .int .u64 (sz : Nat), .int .u64 (le : Nat), .int .u64 (mo : Nat)] 27)).drew (Gives (.string V) (W.alloc (.cells #[.int .u64 (n : Nat), .int .u64 (lv : Nat), .int .u64 (ct : Nat), .int .u64 (sz : Nat), .int .u64 (le : Nat), .int .u64 (mo : Nat)] 27)).drew)) := Lib.hid fun W => hVar _ _ (hU (h1n _ _))
      have HV2 : Hid (∀ (W : World) (B : Obj), Calls Try.prog 40 #[.slice (some ⟨W.heap.size, 0, none⟩) 6 6] ((W.alloc (.cells #[.int .u64 (n : Nat), .int .u64 (lv : Nat), .int .u64 (ct : Nat), .int .u64 (sz : Nat), .int .u64 (le : Nat), .int .u64 (mo : Nat)] 27)).alloc B).drew (Gives (.string V) ((W.alloc (.cells #[.int .u64 (n : Nat), .int .u64 (lv : Nat), .int .u64 (ct : Nat), .int .u64 (sz : Nat), .int .u64 (le : Nat), .int .u64 (mo : Nat)] 27)).alloc B).drew)) := Lib.hid fun W B => hVar _ _ (hU (h2o _ _ _))
      have HV3 : Hid (∀ (W : World) (B : Obj), Calls Try.prog 40 #[.slice (some ⟨W.heap.size + 1, 0, none⟩) 6 6] ((W.alloc B).alloc (.cells #[.int .u64 (n : Nat), .int .u64 (lv : Nat), .int .u64 (ct : Nat), .int .u64 (sz : Nat), .int .u64 (le : Nat), .int .u64 (mo : Nat)] 27)).drew (Gives (.string V) ((W.alloc B).alloc (.cells #[.int .u64 (n : Nat), .int .u64 (lv : Nat), .int .u64 (ct : Nat), .int .u64 (sz : Nat), .int .u64 (le : Nat), .int .u64 (mo : Nat)] 27)).drew)) := Lib.hid fun W B => hVar _ _ (hU (h2n _ _ _))
      have HT1 : Hid (∀ W : World, Calls Try.prog 41 #[.slice (some ⟨W.heap.size, 0, none⟩) 2 2] (W.alloc (.cells #[.string f, .string l] 9)) (Gives (.string T) (W.alloc (.cells #[.string f, .string l] 9)))) := Lib.hid fun W => hText _ _ (sees_heap2 (heap_alloc_new _ _))
      have HT2 : Hid (∀ (W : World) (B : Obj) (w1 : World), Below ((W.alloc B).alloc (.cells #[.string f, .string l] 9)).drew.heap.size ((W.alloc B).alloc (.cells #[.string f, .string l] 9)).drew w1 → Calls Try.prog 41 #[.slice (some ⟨W.heap.size + 1, 0, none⟩) 2 2] w1 (Gives (.string T) w1)) := Lib.hid fun W B w1 hb => hText _ _ (sees_heap2 (kept_block (h2n _ _ _) hb))
      have HT3 : Hid (∀ (W : World) (B : Obj) (w1 : World), Below ((W.alloc (.cells #[.string f, .string l] 9)).alloc B).drew.heap.size ((W.alloc (.cells #[.string f, .string l] 9)).alloc B).drew w1 → Calls Try.prog 41 #[.slice (some ⟨W.heap.size, 0, none⟩) 2 2] w1 (Gives (.string T) w1)) := Lib.hid fun W B w1 hb => hText _ _ (sees_heap2 (kept_block (h2o _ _ _) hb))
      have HE2 : Hid (S ++ V ++ T = ⟨(VA ++ (e.add.take (k + 1)).flatMap Ed.tbRow).toArray⟩) := by
        rw [HS.out, hV, hT, mk_app, mk_app, HR.out]
        exact Lib.hid (by simp)
      have hVs : V.size ≤ 54 := by rw [hV, size_mk]; exact varl_length [n, lv, ct, sz, le, mo]
      have hTs : T.size ≤ 146 := by rw [hT, size_mk]; exact textl_two_length f l hf hl
      have hadd : ¬ 9223372036854775807 < S.size + V.size := by omega
      have hadd2 : ¬ 9223372036854775807 < S.size + V.size + T.size := by omega
      have hw1 : IntKind.u64.wrap (lv : Int) = lv := wrap_nat _ (by omega)
      have hw2 : IntKind.u64.wrap (ct : Int) = ct := wrap_nat _ (by omega)
      have hw3 : IntKind.u64.wrap (sz : Int) = sz := wrap_nat _ (by omega)
      clear hV hT hVar hText hU hn l1 t1 s1 hf hl hle hmo l0 t0 s0 HR HTS HS HF
      go_wp2_with fail
      have HB0 : Hid (Below w1.heap.size w1 (wr.alloc (.cells #[.int .u64 (n : Nat), .int .i64 (lv : Nat), .int .i64 (ct : Nat), .int .i64 (sz : Nat), .string f, .string l, .int .u64 (le : Nat), .int .u64 (mo : Nat)] 31))) := Lib.hid (Below.next_alloc hbel _)
      have hbx : TbBox (wr.alloc (.cells #[.int .u64 (n : Nat), .int .i64 (lv : Nat), .int .i64 (ct : Nat), .int .i64 (sz : Nat), .string f, .string l, .int .u64 (le : Nat), .int .u64 (mo : Nat)] 31)) wr.heap.size n lv ct sz f l le mo := TbBox.new ..
      have hszw : wr.heap.size < (wr.alloc (.cells #[.int .u64 (n : Nat), .int .i64 (lv : Nat), .int .i64 (ct : Nat), .int .i64 (sz : Nat), .string f, .string l, .int .u64 (le : Nat), .int .u64 (mo : Nat)] 31)).heap.size := by simp
      clear hbel c0 c1 c2 c3 c4 c5 c6 c7 e0
      generalize wr.alloc (.cells #[.int .u64 (n : Nat), .int .i64 (lv : Nat), .int .i64 (ct : Nat), .int .i64 (sz : Nat), .string f, .string l, .int .u64 (le : Nat), .int .u64 (mo : Nat)] 31) = W at *
      have HK1 : Hid (∀ A, TbBox (W.alloc A).drew wr.heap.size n lv ct sz f l le mo) := Lib.hid (fun A => hbx.of ((Below.refl W.heap.size W).alloc (Nat.le_refl _) _).drew hszw)
      have HK2 : Hid (∀ A B, TbBox ((W.alloc A).alloc B).drew wr.heap.size n lv ct sz f l le mo) := Lib.hid (fun A B => hbx.of (Below.next_alloc ((Below.refl W.heap.size W).alloc (Nat.le_refl _) _) _).drew hszw)
      have HBX := Lib.hid hbx
      obtain ⟨g0, g1, g2, g3, g4, g5, g6, g7⟩ := hbx
      go_region_held3 (fun w' => TbBox w' wr.heap.size n lv ct sz f l le mo)
        (first
          | exact HBX.out
          | exact HK1.out _
          | exact HK2.out _ _
          | go_keep
          | exact TbBox.of (HK1.out _) hb1 (by simp; omega)
          | exact TbBox.of (HK2.out _ _) hb1 (by simp; omega)
          | exact TbBox.of (by assumption) ((Below.refl _ _).alloc (Nat.le_refl _) _) (by have := hb1.size; simp at this; omega)
          | exact TbBox.of ⟨by assumption, by assumption, by assumption, by assumption, by assumption, by assumption, by assumption, by assumption⟩ ((Below.refl _ _).alloc (Nat.le_refl _) _) (by have := hb1.size; simp at this; omega)
          | exact TbBox.of ⟨by assumption, by assumption, by assumption, by assumption, by assumption, by assumption, by assumption, by assumption⟩ hb2 (by have := hb1.size; simp at this; simp; omega)
          | exact TbBox.of (by assumption) hb2 (by have := hb1.size; simp at this; simp; omega)
          | exact TbBox.of (TbBox.of (HK1.out _) hb1 (by simp; omega)) ((Below.refl _ _).alloc (Nat.le_refl _) _) (by have := hb1.size; simp at this; simp; omega))
        (first
          | (go_at_call 40; (with_reducible refine (HV1.out _).mono ?_); rintro r v1 ⟨rfl, hb1⟩)
          | (go_at_call 40; (with_reducible refine (HV2.out _ _).mono ?_); rintro r v1 ⟨rfl, hb1⟩)
          | (go_at_call 40; (with_reducible refine (HV3.out _ _).mono ?_); rintro r v1 ⟨rfl, hb1⟩)
          | (go_at_call 41; (with_reducible refine (HT1.out _).mono ?_); rintro r v2 ⟨rfl, hb2⟩)
          | (go_at_call 41; (with_reducible refine (HT2.out _ _ _ hb1).mono ?_); rintro r v2 ⟨rfl, hb2⟩)
          | (go_at_call 41; (with_reducible refine (HT3.out _ _ _ hb1).mono ?_); rintro r v2 ⟨rfl, hb2⟩))
      all_goals
        have HF : Hid (Below w1.heap.size w1 v2) := by
          first
            | exact Lib.hid (below_one HB0.out hb1 hb2)
            | exact Lib.hid (below_two HB0.out hb1 hb2)
        clear hb1 hb2
        go_wp2_with fail
        go_roundw
        case rel => exact ⟨k + 1, _, by omega, by go_num, rfl, HE2.out, HF.out⟩
        case measure => simp [intOf]; omega
    · obtain rfl : k = an := by omega
      have e1 : wr.cell? ⟨w.heap.size, 1, none⟩ = some (.slice bo bn bc) := Sk.cell_of (k := 1) hx
      have e2 : wr.cell? ⟨w.heap.size, 2, none⟩ = some (.int .u64 (e.log : Nat)) := Sk.cell_of (k := 2) hx
      have e3 : wr.cell? ⟨w.heap.size, 3, none⟩ = some (.int .u64 (e.seq : Nat)) := Sk.cell_of (k := 3) hx
      have e4 : wr.cell? ⟨w.heap.size, 4, none⟩ = some (.int .u64 (e.next : Nat)) := Sk.cell_of (k := 4) hx
      have HBW : Hid (Below w.heap.size w wr) := Lib.hid (Below.next HB1.out hbel)
      have hzr : w.heap.size < wr.heap.size := by omega
      have HS0 : Hid (EcS wr w.heap.size bo bn bc e.log e.seq e.next) := Lib.hid ⟨e1, e2, e3, e4⟩
      have HK : Hid (∀ v, Below wr.heap.size wr v → EcS v w.heap.size bo bn bc e.log e.seq e.next) := Lib.hid (fun v h => EcS.of ⟨e1, e2, e3, e4⟩ h hzr)
      have HDW : Hid (∀ v, Below wr.heap.size wr v → SeesU v (.slice bo bn bc) e.drop) := Lib.hid (fun v h => HD.out.below (Below.next HBW.out h))
      have hsb : (⟨VB.toArray⟩ : ByteArray).size ≤ 9 := by rw [size_mk]; exact HLb.out
      have hsd : (⟨VD.toArray⟩ : ByteArray).size ≤ 9000000 := by rw [size_mk]; exact HLd.out
      have hsn : (⟨VN.toArray⟩ : ByteArray).size ≤ 27 := by rw [size_mk]; exact HLn.out
      have HE2 : Hid (S ++ ⟨VB.toArray⟩ ++ ⟨VD.toArray⟩ ++ ⟨VN.toArray⟩ = ⟨(Ed.enc e).toArray⟩) := by
        rw [HS.out, mk_app, mk_app, mk_app, HE.out]
        exact Lib.hid (by simp)
      have HL : Hid (S.size + (⟨VB.toArray⟩ : ByteArray).size + (⟨VD.toArray⟩ : ByteArray).size + (⟨VN.toArray⟩ : ByteArray).size = (Ed.enc e).length) := Lib.hid (by
        rw [← size_mk (Ed.enc e), ← HE2.out, ByteArray.size_append, ByteArray.size_append, ByteArray.size_append])
      clear HE HS HLT hbel hx HX HC HA HD
      generalize (⟨VB.toArray⟩ : ByteArray) = XB at *
      generalize (⟨VD.toArray⟩ : ByteArray) = XD at *
      generalize (⟨VN.toArray⟩ : ByteArray) = XN at *
      have hadd1 : ¬ 9223372036854775807 < S.size + XB.size := by omega
      have hadd2 : ¬ 9223372036854775807 < S.size + XB.size + XD.size := by omega
      have hadd3 : ¬ 9223372036854775807 < S.size + XB.size + XD.size + XN.size := by omega
      go_wp2_with fail
      go_region_held3 (fun w' => EcS w' w.heap.size bo bn bc e.log e.seq e.next)
        (first
          | exact HS0.out
          | go_keep
          | exact HK.out _ (Below.refl _ _).drew
          | exact HK.out _ ((Below.refl _ _).alloc (Nat.le_refl _) _).drew
          | exact HK.out _ (Below.next (Below.refl _ _).drew hb1)
          | exact HK.out _ (Below.next ((Below.refl _ _).alloc (Nat.le_refl _) _).drew hb1)
          | exact HK.out _ (Below.next_alloc (Below.next (Below.refl _ _).drew hb1) _)
          | exact HK.out _ (Below.next (Below.next (Below.refl _ _).drew hb1) hb2)
          | exact HK.out _ (Below.next (Below.next ((Below.refl _ _).alloc (Nat.le_refl _) _).drew hb1) hb2)
          | exact HK.out _ (Below.next (Below.next_alloc (Below.next (Below.refl _ _).drew hb1) _) hb2)
          | exact HK.out _ (Below.next_alloc (Below.next (Below.next (Below.refl _ _).drew hb1) hb2) _)
          | exact HK.out _ (Below.next (Below.next (Below.next (Below.refl _ _).drew hb1) hb2) hb3)
          | exact HK.out _ (Below.next (Below.next (Below.next ((Below.refl _ _).alloc (Nat.le_refl _) _).drew hb1) hb2) hb3)
          | exact HK.out _ (Below.next (Below.next (Below.next_alloc (Below.next (Below.refl _ _).drew hb1) _) hb2) hb3)
          | exact HK.out _ (Below.next (Below.next_alloc (Below.next (Below.next (Below.refl _ _).drew hb1) hb2) _) hb3))
        (first
          | (go_at_call 39; (with_reducible refine (HVb.out _).mono ?_); rintro r v1 ⟨rfl, hb1⟩)
          | (go_at_call 40; (with_reducible refine (HVd.out _ (HDW.out _ (Below.next (Below.refl _ _).drew hb1))).mono ?_); rintro r v2 ⟨rfl, hb2⟩)
          | (go_at_call 40; (with_reducible refine (HVd.out _ (HDW.out _ (Below.next ((Below.refl _ _).alloc (Nat.le_refl _) _).drew hb1))).mono ?_); rintro r v2 ⟨rfl, hb2⟩)
          | (go_at_call 40; (with_reducible refine (HVd.out _ (HDW.out _ (Below.next_alloc (Below.next (Below.refl _ _).drew hb1) _))).mono ?_); rintro r v2 ⟨rfl, hb2⟩)
          | (go_at_call 40; (with_reducible refine (HVn.out _ _ _ (seesU_h3 (heap_alloc_new v2 _))).mono ?_); rintro r v3 ⟨rfl, hb3⟩)
          | (go_at_call 40; (with_reducible refine (HVn.out _ _ _ (seesU_h3 (kept_block (heap_alloc_new v1 _) hb2))).mono ?_); rintro r v3 ⟨rfl, hb3⟩)
          | (go_at_call 40; (with_reducible refine (HVn.out _ _ _ (seesU_h3 (kept_block (kept_block (h1n wr _) hb1) hb2))).mono ?_); rintro r v3 ⟨rfl, hb3⟩))
      all_goals
        have HF : Hid (Below w.heap.size w v3) := by
          first
            | exact Lib.hid (Below.next (Below.next (Below.next HBW.out.drew hb1) hb2) hb3)
            | exact Lib.hid (Below.next (Below.next (Below.next (Below.next_alloc HBW.out _).drew hb1) hb2) hb3)
            | exact Lib.hid (Below.next (Below.next (Below.next_alloc (Below.next HBW.out.drew hb1) _) hb2) hb3)
            | exact Lib.hid (Below.next (Below.next_alloc (Below.next (Below.next HBW.out.drew hb1) hb2) _) hb3)
        clear hb1 hb2 hb3 hadd1 hadd2 hadd3
        have hsz2 : ((S ++ XB ++ XD ++ XN).size : Int) = (Ed.enc e).length := by
          rw [ByteArray.size_append, ByteArray.size_append, ByteArray.size_append, HL.out]
        rw [HE2.out] at hsz2 ⊢
        obtain ⟨Y, hY⟩ : ∃ Y : ByteArray, Y = ⟨(Ed.enc e).toArray⟩ := ⟨_, rfl⟩
        rw [← hY] at hsz2 ⊢
        have HY := Lib.hid hY; clear hY
        by_cases hL : 524288 < (Ed.enc e).length
        · have HG : Hid (Ed.long (Ed.enc e) = true) := Lib.hid (by simp [Ed.long, hL])
          have hL' : (524288 : Int) < Y.size := by omega
          go_wp2_with fail
          go_ret2
          unfold EncSaid
          rw [if_pos HG.out, if_pos HG.out]
          exact ⟨rfl, HF.out⟩
        · have HG : Hid (¬ Ed.long (Ed.enc e) = true) := Lib.hid (by simp [Ed.long]; omega)
          have hL' : ¬ (524288 : Int) < Y.size := by omega
          go_wp2_with fail
          go_ret2
          unfold EncSaid
          rw [if_neg HG.out, if_neg HG.out]
          exact ⟨by rw [HY.out]; rfl, HF.out⟩

/-- The document's Encode, of every edit of at most 100000 tables, 1000000 numbers. -/
theorem encref_any (ao : Option Addr) (an ac : Nat) (bo : Option Addr) (bn bc : Nat) (e : Edt) (w : World) (hA : SeesTb w (.slice ao an ac) e.add) (hD : SeesU w (.slice bo bn bc) e.drop) (hla : an ≤ 100000) (hlb : bn ≤ 1000000) (hI : Ed.In e) :
    Calls Try.prog 20 #[edV ao an ac bo bn bc e.log e.seq e.next] w (Told (Ed.encode e).1 (Ed.encode e).2 w) := by
  by_cases h : Ed.chk e.add e.drop = 0
  · have k := encref_yes ao an ac bo bn bc e w hA hD hla hlb hI h
    unfold Ed.encode
    rw [if_pos h]
    unfold EncSaid at k
    by_cases hl : Ed.long (Ed.enc e) = true
    · rw [if_pos hl] at k ⊢; rw [if_pos hl] at k; exact k
    · rw [if_neg hl] at k ⊢; rw [if_neg hl] at k; exact k
  · unfold Ed.encode
    rw [if_neg h]
    have h1 : Ed.chk e.add e.drop = 1 := by
      unfold Ed.chk at h ⊢
      split at h
      · exact absurd rfl h
      · rename_i hn; rw [if_neg hn]
    rw [h1]
    exact encref_no ao an ac bo bn bc e w hA hD hla hlb h

end Go.Proofs.Ytlhokfildhcdhaa
