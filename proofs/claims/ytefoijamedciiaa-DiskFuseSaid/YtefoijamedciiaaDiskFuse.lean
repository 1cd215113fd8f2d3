/- The walk of DiskFuse. -/
import Derived.Test.YtefoijamedciiaaDkGreat
import Derived.Test.YtefoijamedciiaaDkFs
namespace Go.Proofs.Ytefoijamedciiaa
open Go.RowKit Go.Maps
open Dk (Dir Chg Disk File Str)

set_option maxHeartbeats 8000000 in
set_option maxRecDepth 100000 in
theorem fuses_great (room : Int) (a1 : Option Addr) (n1 c1 : Nat) (l : List Act) (f : Int) (w : World)
    (h1 : ActsRaw w (.slice a1 n1 c1) l) (hg : greatL l = true) :
    Calls Try.prog 4 #[.int .i64 room, .slice a1 n1 c1, .int .u8 f] w (Gives (.bool true) w) := by
  have HA := Lib.hid awake_any
  have HL := Lib.hid (great_any _ _ l h1)
  clear h1
  rw [hg] at HL
  clear hg
  go_enter Try.func4, Try.ntmps4
  go_wp2_with fail
  refine HL.out.mono ?_
  rintro e w1 ⟨rfl, hb1⟩
  have B1 := Lib.hid hb1; clear hb1
  go_wp2_with fail
  refine (HA.out w1).mono ?_
  rintro e w5 ⟨rfl, hb5⟩
  have B5 := Lib.hid (Below.next B1.out hb5); clear hb5
  go_wp2_with fail
  go_ret
  exact ⟨rfl, B5.out⟩

/-- The two disks of a round. -/
structure Pair (w wr : World) (La Lb : Lay) (S : Disk) (j n m : Nat) : Prop where
  a : Disc wr w.heap.size La (S.lit j) n m
  b : Disc wr w.heap.size Lb S n m
  fuse : S.fuse = 0
  down : S.down = false
  sole : Dk.Sole S
  made : Dk.Made S
  sep : ∀ k, Own La k → ¬ Own Lb k
  below : Below w.heap.size w wr

theorem Pair.mono {w wr : World} {La Lb : Lay} {S : Disk} {j n m n' m' : Nat} (h : Pair w wr La Lb S j n m) (hn : n ≤ n') (hm : m ≤ m') : Pair w wr La Lb S j n' m' :=
  ⟨h.a.mono hn hm, h.b.mono hn hm, h.fuse, h.down, h.sole, h.made, h.sep, h.below⟩
/-- The cells of an act. -/
structure ActCells (w : World) (b o : Nat) (x : Act) (vk vs : Value) : Prop where
  a0 : w.cell? ⟨b, o, none⟩ = some (.int .u8 (x.kind : Int))
  a1 : w.cell? ⟨b, o + 1, none⟩ = some (.string x.a)
  a2 : w.cell? ⟨b, o + 2, none⟩ = some (.string x.b)
  a3 : w.cell? ⟨b, o + 3, none⟩ = some (.int .i64 x.n)
  a4 : w.cell? ⟨b, o + 4, none⟩ = some (.int .i64 x.crash.names)
  a5 : w.cell? ⟨b, o + 5, none⟩ = some vk
  a6 : w.cell? ⟨b, o + 6, none⟩ = some vs
theorem ActCells.kept {w w' : World} {b o : Nat} {x : Act} {vk vs : Value} (h : ActCells w b o x vk vs) (k : w'.heap[b]? = w.heap[b]?) : ActCells w' b o x vk vs :=
  ⟨cell_kept h.a0 k, cell_kept h.a1 k, cell_kept h.a2 k, cell_kept h.a3 k, cell_kept h.a4 k, cell_kept h.a5 k, cell_kept h.a6 k⟩

/-- Both acts of a round are done. -/
structure Third (w wr w3 : World) (La Lb Lh : Lay) (S R A : Disk) (n m n' m' : Nat) : Prop where
  a : Disc w3 w.heap.size La A n' m'
  b : Disc w3 w.heap.size Lb R n' m'
  h : Disc w3 wr.heap.size Lh S n m
  sole : Dk.Sole R
  made : Dk.Made R
  sep : ∀ k, Own La k → ¬ Own Lb k
  apart : ∀ k, Own La k → ¬ Own Lh k
  below : Below w.heap.size w w3

theorem third_of {w wr w1 w2 w3 : World} {La Lb Lh : Lay} {S R A : Disk} {j n m n' m' : Nat} (p : Pair w wr La Lb S j n m) (h : Disc w1 wr.heap.size Lh S n m) (hb : Below wr.heap.size wr w1) (ga : Goes La w1 A w2) (gb : Goes Lb w2 R w3)
    (GA : Dk.Good n' m' A) (GR : Dk.Good n' m' R) (O : Dk.Sole R) (M : Dk.Made R) : ∃ La' Lb', La'.d = La.d ∧ Lb'.d = Lb.d ∧ Third w wr w3 La' Lb' Lh S R A n m n' m' := by
  obtain ⟨La', ea, ha, ta, oa⟩ := ga
  obtain ⟨Lb', eb, hbb, tb, ob⟩ := gb
  have s1 := hb.size
  have s2 := ta.size
  have s3 := tb.size
  have lr := p.a.lo
  have ltA : ∀ k, Own La k → k < wr.heap.size := fun k hk => p.a.holds.own_lt hk
  have ltB : ∀ k, Own Lb k → k < wr.heap.size := fun k hk => p.b.holds.own_lt hk
  have ltH : ∀ k, Own Lh k → k < w1.heap.size := fun k hk => h.holds.own_lt hk
  have ltA2 : ∀ k, Own La' k → k < w2.heap.size := fun k hk => ha.own_lt hk
  have h2 : Disc w2 wr.heap.size Lh S n m := h.apart ta fun k hk ho => by have := h.own k hk; have := ltA k ho; omega
  have h3 : Disc w3 wr.heap.size Lh S n m := h2.apart tb fun k hk ho => by have := h2.own k hk; have := ltB k ho; omega
  have sep2 : ∀ k, Own La' k → ¬ Own Lb k := fun k hk ho => by
    rcases oa k hk with h1 | h1
    · exact p.sep k h1 ho
    · have := ltB k ho; omega
  refine ⟨La', Lb', ea, eb, ⟨ha.frame (fun k hk => tb.block k (ltA2 k hk) (sep2 k hk)), GA, fun k hk => ?_, by omega⟩, ⟨hbb, GR, fun k hk => ?_, by omega⟩, h3, O, M, fun k hk ho => ?_, fun k hk ho => ?_, ?_⟩
  · rcases oa k hk with h1 | h1
    · exact p.a.own k h1
    · omega
  · rcases ob k hk with h1 | h1
    · exact p.b.own k h1
    · omega
  · rcases ob k ho with h1 | h1
    · exact sep2 k hk h1
    · have := ltA2 k hk; omega
  · rcases oa k hk with h1 | h1
    · have := ltA k h1; have := h.own k ho; omega
    · have := ltH k ho; omega
  · have b1 : Below w.heap.size w w1 := Below.next p.below hb
    have b2 : Below w.heap.size w w2 := b1.trans (ta.to_below (by omega) p.a.own)
    exact b2.trans (tb.to_below (by omega) p.b.own)

set_option maxHeartbeats 8000000 in
set_option maxRecDepth 100000 in
theorem fuses_small (room : Int) (a1 : Option Addr) (n1 c1 : Nat) (l : List Act) (f : Int) (w : World)
    (h1 : ActsRaw w (.slice a1 n1 c1) l) (hg1 : greatL l = false) (hf : 0 ≤ f ∧ f ≤ 255) :
    Calls Try.prog 4 #[.int .i64 room, .slice a1 n1 c1, .int .u8 f] w (Gives (.bool true) w) := by
  have HA := Lib.hid awake_any
  obtain ⟨ll1, lb1, ls1⟩ := small_of hg1
  have HL := Lib.hid (great_any w _ l h1)
  have A1 : Hid (∀ w', Below w.heap.size w w' → ActsAt w' w.heap.size (.slice a1 n1 c1) l) := Lib.hid fun w' hb => (h1.acts ls1).below hb
  obtain ⟨aa, cc, hsh⟩ := h1.shape
  obtain ⟨rfl, rfl, rfl⟩ : a1 = aa ∧ n1 = l.length ∧ c1 = cc := by simpa using hsh
  rw [hg1] at HL
  have LL := Lib.hid (And.intro ll1 lb1)
  have hm0 : (l.length : Int) ≤ 120 := by omega
  obtain ⟨q, hq, hq2⟩ : ∃ q : Nat, f % 60 = (q : Int) ∧ q ≤ 59 := ⟨(f % 60).toNat, by omega, by omega⟩
  clear h1 ll1 lb1 ls1 hsh hg1
  go_enter Try.func4, Try.ntmps4
  go_wp2_with fail
  refine HL.out.mono ?_
  rintro e w1 ⟨rfl, hb1⟩
  have B1 := Lib.hid hb1; clear hb1 HL
  go_wp2_with fail
  refine (new_any w1 room).mono ?_
  rintro e w2 ⟨La, rfl, hh, hb2, ho⟩
  have DA : Hid (Disc w2 w.heap.size La (Dk.fresh room) 0 0) := Lib.hid ⟨hh, Dk.good_fresh room, fun b hb => Nat.le_trans B1.out.size (ho b hb), Nat.le_trans B1.out.size hb2.size⟩
  have B2 := Lib.hid (Below.next B1.out hb2)
  obtain ⟨pa, hpa⟩ : ∃ d, d = La.d := ⟨_, rfl⟩
  rw [← hpa]
  have HPA : Hid (La.d = pa) := hpa.symm
  clear hh hb2 ho hpa B1
  go_wp2_with fail
  refine (new_any w2 room).mono ?_
  rintro e w3 ⟨Lb, rfl, hh, hb3, ho⟩
  have DB : Hid (Disc w3 w.heap.size Lb (Dk.fresh room) 0 0) := Lib.hid ⟨hh, Dk.good_fresh room, fun b hb => Nat.le_trans B2.out.size (ho b hb), Nat.le_trans B2.out.size hb3.size⟩
  have SE : Hid (∀ k, Own La k → ¬ Own Lb k) := Lib.hid fun k hk hk2 => by have := DA.out.holds.own_lt hk; have := ho k hk2; omega
  have DA2 := Lib.hid (DA.out.below hb3)
  have B3 := Lib.hid (Below.next B2.out hb3)
  obtain ⟨pb, hpb⟩ : ∃ d, d = Lb.d := ⟨_, rfl⟩
  rw [← hpb]
  have HPB : Hid (Lb.d = pb) := hpb.symm
  have hst := fuse_any w3 DA2.out.holds (1 + (q : Int))
  rw [HPA.out] at hst
  have HFU := Lib.hid hst
  clear hh hb3 ho hpb B2 DA hst
  go_wp2_with fail
  refine HFU.out.mono ?_
  rintro e w4 ⟨rfl, hg⟩
  have e1 : (Dk.fresh room).light (1 + (q : Int)) = (Dk.fresh room).lit (q + 1) := by
    unfold Dk.Disk.light Dk.Disk.lit
    congr 1
    omega
  obtain ⟨La2, hld, hDa, hB, hDb, _, s1, _⟩ := goes_three DA2.out hg (DA2.out.good.light (1 + (q : Int)) (by omega)) DB.out DB.out SE.out SE.out
  rw [e1] at hDa
  have P0 : Hid (La2.d = pa ∧ Lb.d = pb ∧ Pair w w4 La2 Lb (Dk.fresh room) (q + 1) 0 0) := Lib.hid ⟨hld.trans HPA.out, HPB.out, ⟨hDa, hDb, rfl, rfl, Dk.sole_fresh room, Dk.made_fresh room, s1, B3.out.trans hB⟩⟩
  obtain ⟨N, hN⟩ : ∃ N : Nat, N = q + 1 := ⟨_, rfl⟩
  have hN2 : (1 + (q : Int)) = (N : Int) := by omega
  have hNb : (N : Int) ≤ 60 := by omega
  have hN1 : (1 : Int) ≤ N := by omega
  rw [hN2]
  rw [← hN] at P0
  clear hN2 hN hq hq2 hf e1 hld hDa hB hDb s1 hg DA2 DB SE B3 HPA HPB HFU
  rename_i ig1 ig2
  clear ig1 ig2
  go_wp2_with fail
  go_loopw [11, 10] (fun z u wr => ∃ (k dn : Nat) (La Lb : Lay) (S : Disk), k ≤ l.length ∧ z = .int .i64 (k : Int) ∧ u = .int .i64 (dn : Int) ∧ dn < N ∧ Hid (La.d = pa ∧ Lb.d = pb ∧ Pair w wr La Lb S (N - dn) k (bytesOf (l.take k)))) (fun z _ _ => l.length - (intOf z).toNat)
  case atStart => exact ⟨0, 0, La2, Lb, _, by omega, rfl, rfl, by omega, Lib.hid ⟨P0.out.1, P0.out.2.1, P0.out.2.2⟩⟩
  case round =>
    obtain ⟨k, dn, La, Lb, S, hk, rfl, rfl, hdn, HK⟩ := hrel
    have hdn2 : (dn : Int) < N := by omega
    by_cases hlt : k < l.length
    · have hlt2 : (k : Int) < l.length := by omega
      obtain ⟨x, hx⟩ : ∃ x, l[k]? = some x := ⟨_, List.getElem?_eq_getElem hlt⟩
      have hAw := A1.out wr HK.out.2.2.below
      rcases hAw with ⟨h1, _⟩ | ⟨b, off, cap, h1, hb1, hb2, hc⟩
      · subst h1; simp at hx
      simp only [Value.slice.injEq, true_and] at h1
      obtain ⟨rfl, rfl⟩ := h1
      obtain ⟨hfx, vk, vs, hol, a0, a1, a2, a3, a4, a5, a6⟩ := hc k x hx
      have hdw := down_any wr HK.out.2.2.a.holds
      rw [HK.out.1, show (S.lit (N - dn)).down = false from HK.out.2.2.down] at hdw
      have HDW := Lib.hid hdw
      have HX := Lib.hid hx; have HFX := Lib.hid hfx
      have HTK : Hid (bytesOf (l.take (k + 1)) = bytesOf (l.take k) + x.b.size) := by rw [take_act hx, bytes_snoc]; exact Lib.hid rfl
      have HBB : Hid (bytesOf (l.take k) ≤ 20000 ∧ k ≤ 120) := Lib.hid (by have := bytes_take_le l k; have := LL.out; omega)
      clear hdw hx hfx hc
      by_cases hc8 : 6 ≤ x.kind ∧ x.kind ≤ 8
      · have hk6 : (6 : Int) ≤ x.kind := by omega
        have hk8 : (x.kind : Int) ≤ 8 := by omega
        clear hc8
        go_wp2_with fail
        refine HDW.out.mono ?_
        rintro e wz ⟨rfl, rfl⟩
        go_wp2_with fail
        go_roundw
        case rel => exact ⟨k + 1, dn, La, Lb, S, by omega, by go_num, rfl, hdn, Lib.hid ⟨HK.out.1, HK.out.2.1, HK.out.2.2.mono (Nat.le_succ _) (by rw [HTK.out]; omega)⟩⟩
        case measure => simp [intOf]; omega
      · have hkk : x.kind < 6 ∨ 9 ≤ x.kind := by omega
        have hdj : 1 ≤ N - dn := by omega
        obtain ⟨hs1, hs2⟩ := does_step HK.out.2.2.fuse HK.out.2.2.down hdj x hkk
        have htw := twin_of HK.out.2.2.b (by have := HBB.out; omega) (by have := HBB.out; omega) HK.out.2.2.sole HK.out.2.2.made
        rw [HK.out.2.1] at htw
        have HTW := Lib.hid htw
        obtain ⟨st, hst⟩ : ∃ st, st = (⟨(does S x).2.1.toArray⟩ : ByteArray) := ⟨_, rfl⟩
        have HST : Hid ((⟨(does (S.lit (N - dn)) x).2.1.toArray⟩ : ByteArray) = st ∧ (⟨(does S x).2.1.toArray⟩ : ByteArray) = st) := by rw [hs1]; exact Lib.hid ⟨hst.symm, hst.symm⟩
        have HRS : Hid (Dk.Sole (does S x).1 ∧ Dk.Made (does S x).1) := Lib.hid ⟨sole_does HK.out.2.2.sole HK.out.2.2.b.good x, made_does HK.out.2.2.made HK.out.2.2.sole x⟩
        have HGO : Hid (Dk.Good (k + 1) (bytesOf (l.take (k + 1))) (does (S.lit (N - dn)) x).1 ∧ Dk.Good (k + 1) (bytesOf (l.take (k + 1))) (does S x).1) := by
          rw [HTK.out]; exact Lib.hid ⟨good_does HK.out.2.2.a.good x HFX.out.n, good_does HK.out.2.2.b.good x HFX.out.n⟩
        have OL := Lib.hid hol
        have AC : Hid (ActCells wr b (off + k * 7) x vk vs) := Lib.hid ⟨a0, a1, a2, a3, a4, a5, a6⟩
        have HBL := Lib.hid (And.intro hb1 hb2)
        have KK := Lib.hid hkk
        clear hs1 htw hst hc8 hol a0 a1 a2 a3 a4 a5 a6 hdj hkk hb1 hb2
        rcases hs2 with ⟨hk6, f0, ff, fd, ⟨j1, e7, eA⟩ | ⟨j2, e0, eA⟩⟩ | ⟨hne, eR, ec, eA⟩
        · have hk6i : (x.kind : Int) < 6 := by omega
          have HQ := Lib.hid (And.intro f0 (And.intro e7 eA))
          clear f0 e7 eA ff fd hk6
          have HDO := Lib.hid fun (w5 : World) (hb5 : Below wr.heap.size wr w5) => does_any (HK.out.2.2.a.below hb5) (by have := HBB.out; omega) (by have := HBB.out; omega) x HFX.out vk vs (OL.out.below (hb5.mono HK.out.2.2.a.lo))
          unfold actV Did at HDO
          rw [HK.out.1, HST.out.1, HQ.out.2.1] at HDO
          have HDB := Lib.hid fun (w6 : World) (hD6 : Disc w6 w.heap.size Lb S k (bytesOf (l.take k))) (ho6 : Older w6 w.heap.size vk vs x.crash) => does_any hD6 (by have := HBB.out; omega) (by have := HBB.out; omega) x HFX.out vk vs ho6
          unfold actV Did at HDB
          rw [HK.out.2.1, HST.out.2, HQ.out.1] at HDB
          obtain ⟨a0, a1, a2, a3, a4, a5, a6⟩ := AC.out
          go_wp2_with fail
          refine HDW.out.mono ?_
          rintro e wz ⟨rfl, rfl⟩
          go_wp2_with fail
          refine HTW.out.mono ?_
          rintro e w5 ⟨Lh, rfl, hDh, hb5⟩
          obtain ⟨ph, hph⟩ : ∃ d, d = Lh.d := ⟨_, rfl⟩
          rw [← hph]
          have HPH : Hid (Lh.d = ph) := hph.symm
          have DH := Lib.hid hDh; have BH := Lib.hid hb5
          have AC5 := Lib.hid (AC.out.kept (hb5.block b HBL.out.2))
          have HCA := Lib.hid (HDO.out w5 hb5)
          have HB5 : Hid (Below w.heap.size wz w5) := Lib.hid (hb5.mono HK.out.2.2.a.lo)
          clear a0 a1 a2 a3 a4 a5 a6 hph hDh hb5
          obtain ⟨a0, a1, a2, a3, a4, a5, a6⟩ := AC5.out
          go_wp2_with fail
          refine HCA.out.mono ?_
          rintro e w6 ⟨rfl, hga⟩
          have HGA := Lib.hid hga
          have HB6 : Hid (Below w.heap.size w5 w6) := by
            obtain ⟨La', ea, ha, ta, oa⟩ := hga
            exact Lib.hid (ta.to_below (by have := HK.out.2.2.a.lo; have := BH.out.size; omega) HK.out.2.2.a.own)
          have D6 : Hid (Disc w6 w.heap.size Lb S k (bytesOf (l.take k))) := by
            obtain ⟨La', ea, ha, ta, oa⟩ := hga
            exact Lib.hid ((HK.out.2.2.b.below BH.out).apart ta fun j h1 h2 => HK.out.2.2.sep j h2 h1)
          have AC6 := Lib.hid (AC5.out.kept (HB6.out.block b HBL.out.1))
          have HCB := Lib.hid (HDB.out w6 D6.out ((OL.out.below HB5.out).below HB6.out))
          clear hga a0 a1 a2 a3 a4 a5 a6 HCA HDO HDB
          obtain ⟨a0, a1, a2, a3, a4, a5, a6⟩ := AC6.out
          go_wp2_with fail
          refine HCB.out.mono ?_
          rintro e w7 ⟨rfl, hgb⟩
          obtain ⟨La3, Lb3, hea, heb, h3⟩ := third_of HK.out.2.2 DH.out BH.out HGA.out hgb HGO.out.1 HGO.out.2 HRS.out.1 HRS.out.2
          have TH := Lib.hid h3
          have HLA : Hid (La3.d = pa) := Lib.hid (hea.trans HK.out.1)
          have HLB : Hid (Lb3.d = pb) := Lib.hid (heb.trans HK.out.2.1)
          have AC7 := Lib.hid (AC6.out.kept ((TH.out.below.block b HBL.out.1).trans ((HK.out.2.2.below.trans (HB5.out.trans HB6.out)).block b HBL.out.1).symm))
          clear hgb hea heb h3 a0 a1 a2 a3 a4 a5 a6 HCB HGA D6 AC6 AC5
          obtain ⟨a0, a1, a2, a3, a4, a5, a6⟩ := AC7.out
          have hdw2 := down_any w7 TH.out.a.holds
          rw [HLA.out, HQ.out.2.2] at hdw2
          have HDW2 := Lib.hid hdw2
          clear hdw2
          go_wp2_with fail
          refine HDW2.out.mono ?_
          rintro e wz2 ⟨rfl, rfl⟩
          clear a0 a1 a2 a3 a4 a5 a6
          have hdq : (dn : Int) + 1 = N := by omega
          have hst := start_any wz2 TH.out.a.holds
          rw [HLA.out] at hst
          have HSA := Lib.hid hst
          clear hst j1
          go_wp2_with fail
          refine HSA.out.mono ?_
          rintro e w8 ⟨rfl, hg⟩
          rw [HQ.out.2.2, back_on HK.out.2.2.fuse HK.out.2.2.down] at hg
          obtain ⟨La4, hld, hDa, hB, hDh, _, _, _⟩ := goes_three TH.out.a hg HK.out.2.2.b.good TH.out.h TH.out.h TH.out.apart TH.out.apart
          have hsm := same_any w8 hDa.holds hDh.holds (fits_of HK.out.2.2.b.good (by have := HBB.out; omega) (by have := HBB.out; omega))
          rw [hld, HLA.out, HPH.out] at hsm
          have HSM := Lib.hid hsm
          have B8 := Lib.hid (TH.out.below.trans hB)
          clear hsm hg hld hDa hB hDh HSA
          rename_i ig1 ig2 ig3
          clear ig1 ig2 ig3
          go_wp2_with fail
          refine HSM.out.mono ?_
          rintro e w9 ⟨rfl, hb9⟩
          have B9 := Lib.hid (Below.next B8.out hb9); clear hb9
          go_wp2_with fail
          refine (HA.out w9).mono ?_
          rintro e w10 ⟨rfl, hb10⟩
          have B10 := Lib.hid (Below.next B9.out hb10); clear hb10
          go_wp2_with fail
          go_ret
          exact ⟨rfl, B10.out⟩
        · have hk6i : (x.kind : Int) < 6 := by omega
          obtain ⟨j, hj⟩ : ∃ j, j = N - dn - 1 := ⟨_, rfl⟩
          rw [← hj] at eA
          have HQ := Lib.hid (And.intro f0 (And.intro e0 (And.intro eA (And.intro ff fd))))
          have hji : (j : Int) = N - (dn + 1) := by omega
          have HJ := Lib.hid (And.intro hj j2)
          clear f0 e0 eA ff fd hk6 hj j2
          have HDO := Lib.hid fun (w5 : World) (hb5 : Below wr.heap.size wr w5) => does_any (HK.out.2.2.a.below hb5) (by have := HBB.out; omega) (by have := HBB.out; omega) x HFX.out vk vs (OL.out.below (hb5.mono HK.out.2.2.a.lo))
          unfold actV Did at HDO
          rw [HK.out.1, HST.out.1, HQ.out.2.1] at HDO
          have HDB := Lib.hid fun (w6 : World) (hD6 : Disc w6 w.heap.size Lb S k (bytesOf (l.take k))) (ho6 : Older w6 w.heap.size vk vs x.crash) => does_any hD6 (by have := HBB.out; omega) (by have := HBB.out; omega) x HFX.out vk vs ho6
          unfold actV Did at HDB
          rw [HK.out.2.1, HST.out.2, HQ.out.1] at HDB
          obtain ⟨a0, a1, a2, a3, a4, a5, a6⟩ := AC.out
          go_wp2_with fail
          refine HDW.out.mono ?_
          rintro e wz ⟨rfl, rfl⟩
          go_wp2_with fail
          refine HTW.out.mono ?_
          rintro e w5 ⟨Lh, rfl, hDh, hb5⟩
          obtain ⟨ph, hph⟩ : ∃ d, d = Lh.d := ⟨_, rfl⟩
          rw [← hph]
          have HPH : Hid (Lh.d = ph) := hph.symm
          have DH := Lib.hid hDh; have BH := Lib.hid hb5
          have AC5 := Lib.hid (AC.out.kept (hb5.block b HBL.out.2))
          have HCA := Lib.hid (HDO.out w5 hb5)
          have HB5 : Hid (Below w.heap.size wz w5) := Lib.hid (hb5.mono HK.out.2.2.a.lo)
          clear a0 a1 a2 a3 a4 a5 a6 hph hDh hb5
          obtain ⟨a0, a1, a2, a3, a4, a5, a6⟩ := AC5.out
          go_wp2_with fail
          refine HCA.out.mono ?_
          rintro e w6 ⟨rfl, hga⟩
          have HGA := Lib.hid hga
          have HB6 : Hid (Below w.heap.size w5 w6) := by
            obtain ⟨La', ea, ha, ta, oa⟩ := hga
            exact Lib.hid (ta.to_below (by have := HK.out.2.2.a.lo; have := BH.out.size; omega) HK.out.2.2.a.own)
          have D6 : Hid (Disc w6 w.heap.size Lb S k (bytesOf (l.take k))) := by
            obtain ⟨La', ea, ha, ta, oa⟩ := hga
            exact Lib.hid ((HK.out.2.2.b.below BH.out).apart ta fun j h1 h2 => HK.out.2.2.sep j h2 h1)
          have AC6 := Lib.hid (AC5.out.kept (HB6.out.block b HBL.out.1))
          have HCB := Lib.hid (HDB.out w6 D6.out ((OL.out.below HB5.out).below HB6.out))
          clear hga a0 a1 a2 a3 a4 a5 a6 HCA HDO HDB
          obtain ⟨a0, a1, a2, a3, a4, a5, a6⟩ := AC6.out
          go_wp2_with fail
          refine HCB.out.mono ?_
          rintro e w7 ⟨rfl, hgb⟩
          obtain ⟨La3, Lb3, hea, heb, h3⟩ := third_of HK.out.2.2 DH.out BH.out HGA.out hgb HGO.out.1 HGO.out.2 HRS.out.1 HRS.out.2
          have TH := Lib.hid h3
          have HLA : Hid (La3.d = pa) := Lib.hid (hea.trans HK.out.1)
          have HLB : Hid (Lb3.d = pb) := Lib.hid (heb.trans HK.out.2.1)
          have AC7 := Lib.hid (AC6.out.kept ((TH.out.below.block b HBL.out.1).trans ((HK.out.2.2.below.trans (HB5.out.trans HB6.out)).block b HBL.out.1).symm))
          clear hgb hea heb h3 a0 a1 a2 a3 a4 a5 a6 HCB HGA D6 AC6 AC5
          obtain ⟨a0, a1, a2, a3, a4, a5, a6⟩ := AC7.out
          have hdw2 := down_any w7 TH.out.a.holds
          rw [HLA.out, HQ.out.2.2.1, show ((does S x).1.lit j).down = false from HQ.out.2.2.2.2] at hdw2
          have HDW2 := Lib.hid hdw2
          clear hdw2
          go_wp2_with fail
          refine HDW2.out.mono ?_
          rintro e wz2 ⟨rfl, rfl⟩
          clear a0 a1 a2 a3 a4 a5 a6
          have hfu := fused_any wz2 TH.out.a.holds
          rw [HLA.out, HQ.out.2.2.1, show (((does S x).1.lit j).fuse : Int) = (N : Int) - (dn + 1) from hji] at hfu
          have HFU := Lib.hid hfu
          clear hfu
          clear hji
          go_wp2_with fail
          refine HFU.out.mono ?_
          rintro e wz3 ⟨rfl, rfl⟩
          go_wp2_with fail
          go_roundw
          case rel => exact ⟨k + 1, dn + 1, La3, Lb3, (does S x).1, by omega, by go_num, by go_num, by have := HJ.out; omega, Lib.hid ⟨HLA.out, HLB.out, ⟨by have := TH.out.a; rw [HQ.out.2.2.1] at this; rw [show N - (dn + 1) = j by have := HJ.out.1; omega]; exact this, TH.out.b, HQ.out.2.2.2.1, HQ.out.2.2.2.2, TH.out.sole, TH.out.made, TH.out.sep, TH.out.below⟩⟩⟩
          case measure => simp [intOf]; omega
        · by_cases hk6 : x.kind < 6
          · have hk6i : (x.kind : Int) < 6 := by omega
            obtain ⟨cd, hcd⟩ : ∃ cd, cd = (does S x).2.2 := ⟨_, rfl⟩
            have hcn : cd ≠ 0 := by rw [hcd]; exact hne hk6
            have hji : ((N - dn : Nat) : Int) = N - dn := by omega
            have HQ : Hid ((does S x).2.2 = cd ∧ (does (S.lit (N - dn)) x).2.2 = cd ∧ (does (S.lit (N - dn)) x).1 = S.lit (N - dn) ∧ (does S x).1 = S) := Lib.hid ⟨hcd.symm, ec.trans hcd.symm, eA, eR⟩
            clear hne ec eA eR hcd
            clear hk6
            have HDO := Lib.hid fun (w5 : World) (hb5 : Below wr.heap.size wr w5) => does_any (HK.out.2.2.a.below hb5) (by have := HBB.out; omega) (by have := HBB.out; omega) x HFX.out vk vs (OL.out.below (hb5.mono HK.out.2.2.a.lo))
            unfold actV Did at HDO
            rw [HK.out.1, HST.out.1, HQ.out.2.1] at HDO
            have HDB := Lib.hid fun (w6 : World) (hD6 : Disc w6 w.heap.size Lb S k (bytesOf (l.take k))) (ho6 : Older w6 w.heap.size vk vs x.crash) => does_any hD6 (by have := HBB.out; omega) (by have := HBB.out; omega) x HFX.out vk vs ho6
            unfold actV Did at HDB
            rw [HK.out.2.1, HST.out.2, HQ.out.1] at HDB
            obtain ⟨a0, a1, a2, a3, a4, a5, a6⟩ := AC.out
            go_wp2_with fail
            refine HDW.out.mono ?_
            rintro e wz ⟨rfl, rfl⟩
            go_wp2_with fail
            refine HTW.out.mono ?_
            rintro e w5 ⟨Lh, rfl, hDh, hb5⟩
            obtain ⟨ph, hph⟩ : ∃ d, d = Lh.d := ⟨_, rfl⟩
            rw [← hph]
            have HPH : Hid (Lh.d = ph) := hph.symm
            have DH := Lib.hid hDh; have BH := Lib.hid hb5
            have AC5 := Lib.hid (AC.out.kept (hb5.block b HBL.out.2))
            have HCA := Lib.hid (HDO.out w5 hb5)
            have HB5 : Hid (Below w.heap.size wz w5) := Lib.hid (hb5.mono HK.out.2.2.a.lo)
            clear a0 a1 a2 a3 a4 a5 a6 hph hDh hb5
            obtain ⟨a0, a1, a2, a3, a4, a5, a6⟩ := AC5.out
            go_wp2_with fail
            refine HCA.out.mono ?_
            rintro e w6 ⟨rfl, hga⟩
            have HGA := Lib.hid hga
            have HB6 : Hid (Below w.heap.size w5 w6) := by
              obtain ⟨La', ea, ha, ta, oa⟩ := hga
              exact Lib.hid (ta.to_below (by have := HK.out.2.2.a.lo; have := BH.out.size; omega) HK.out.2.2.a.own)
            have D6 : Hid (Disc w6 w.heap.size Lb S k (bytesOf (l.take k))) := by
              obtain ⟨La', ea, ha, ta, oa⟩ := hga
              exact Lib.hid ((HK.out.2.2.b.below BH.out).apart ta fun j h1 h2 => HK.out.2.2.sep j h2 h1)
            have AC6 := Lib.hid (AC5.out.kept (HB6.out.block b HBL.out.1))
            have HCB := Lib.hid (HDB.out w6 D6.out ((OL.out.below HB5.out).below HB6.out))
            clear hga a0 a1 a2 a3 a4 a5 a6 HCA HDO HDB
            obtain ⟨a0, a1, a2, a3, a4, a5, a6⟩ := AC6.out
            go_wp2_with fail
            refine HCB.out.mono ?_
            rintro e w7 ⟨rfl, hgb⟩
            obtain ⟨La3, Lb3, hea, heb, h3⟩ := third_of HK.out.2.2 DH.out BH.out HGA.out hgb HGO.out.1 HGO.out.2 HRS.out.1 HRS.out.2
            have TH := Lib.hid h3
            have HLA : Hid (La3.d = pa) := Lib.hid (hea.trans HK.out.1)
            have HLB : Hid (Lb3.d = pb) := Lib.hid (heb.trans HK.out.2.1)
            have AC7 := Lib.hid (AC6.out.kept ((TH.out.below.block b HBL.out.1).trans ((HK.out.2.2.below.trans (HB5.out.trans HB6.out)).block b HBL.out.1).symm))
            clear hgb hea heb h3 a0 a1 a2 a3 a4 a5 a6 HCB HGA D6 AC6 AC5
            obtain ⟨a0, a1, a2, a3, a4, a5, a6⟩ := AC7.out
            have hdw2 := down_any w7 TH.out.a.holds
            rw [HLA.out, HQ.out.2.2.1, show (S.lit (N - dn)).down = false from HK.out.2.2.down] at hdw2
            have HDW2 := Lib.hid hdw2
            clear hdw2
            go_wp2_with fail
            refine HDW2.out.mono ?_
            rintro e wz2 ⟨rfl, rfl⟩
            clear a0 a1 a2 a3 a4 a5 a6
            have hfu := fused_any wz2 TH.out.a.holds
            rw [HLA.out, HQ.out.2.2.1, show ((S.lit (N - dn)).fuse : Int) = (N : Int) - dn from hji] at hfu
            have HFU := Lib.hid hfu
            clear hfu
            clear hji
            go_wp2_with fail
            refine HFU.out.mono ?_
            rintro e wz3 ⟨rfl, rfl⟩
            go_wp2_with fail
            go_roundw
            case rel => exact ⟨k + 1, dn, La3, Lb3, S, by omega, by go_num, by go_num, by omega, Lib.hid ⟨HLA.out, HLB.out, ⟨by have := TH.out.a; rw [HQ.out.2.2.1] at this; exact this, by have := TH.out.b; rw [HQ.out.2.2.2] at this; exact this, HK.out.2.2.fuse, HK.out.2.2.down, HK.out.2.2.sole, HK.out.2.2.made, TH.out.sep, TH.out.below⟩⟩⟩
            case measure => simp [intOf]; omega
          · have hk9 : (9 : Int) ≤ x.kind := by have := KK.out; omega
            by_cases hc0 : (does S x).2.2 = 0
            · have hji : ((N - dn : Nat) : Int) = N - dn := by omega
              have HQ : Hid ((does S x).2.2 = 0 ∧ (does (S.lit (N - dn)) x).2.2 = 0 ∧ (does (S.lit (N - dn)) x).1 = S.lit (N - dn) ∧ (does S x).1 = S) := Lib.hid ⟨hc0, ec.trans hc0, eA, eR⟩
              clear hne ec eA eR hc0 hk6
              have HDO := Lib.hid fun (w5 : World) (hb5 : Below wr.heap.size wr w5) => does_any (HK.out.2.2.a.below hb5) (by have := HBB.out; omega) (by have := HBB.out; omega) x HFX.out vk vs (OL.out.below (hb5.mono HK.out.2.2.a.lo))
              unfold actV Did at HDO
              rw [HK.out.1, HST.out.1, HQ.out.2.1] at HDO
              have HDB := Lib.hid fun (w6 : World) (hD6 : Disc w6 w.heap.size Lb S k (bytesOf (l.take k))) (ho6 : Older w6 w.heap.size vk vs x.crash) => does_any hD6 (by have := HBB.out; omega) (by have := HBB.out; omega) x HFX.out vk vs ho6
              unfold actV Did at HDB
              rw [HK.out.2.1, HST.out.2, HQ.out.1] at HDB
              obtain ⟨a0, a1, a2, a3, a4, a5, a6⟩ := AC.out
              go_wp2_with fail
              refine HDW.out.mono ?_
              rintro e wz ⟨rfl, rfl⟩
              go_wp2_with fail
              refine HTW.out.mono ?_
              rintro e w5 ⟨Lh, rfl, hDh, hb5⟩
              obtain ⟨ph, hph⟩ : ∃ d, d = Lh.d := ⟨_, rfl⟩
              rw [← hph]
              have HPH : Hid (Lh.d = ph) := hph.symm
              have DH := Lib.hid hDh; have BH := Lib.hid hb5
              have AC5 := Lib.hid (AC.out.kept (hb5.block b HBL.out.2))
              have HCA := Lib.hid (HDO.out w5 hb5)
              have HB5 : Hid (Below w.heap.size wz w5) := Lib.hid (hb5.mono HK.out.2.2.a.lo)
              clear a0 a1 a2 a3 a4 a5 a6 hph hDh hb5
              obtain ⟨a0, a1, a2, a3, a4, a5, a6⟩ := AC5.out
              go_wp2_with fail
              refine HCA.out.mono ?_
              rintro e w6 ⟨rfl, hga⟩
              have HGA := Lib.hid hga
              have HB6 : Hid (Below w.heap.size w5 w6) := by
                obtain ⟨La', ea, ha, ta, oa⟩ := hga
                exact Lib.hid (ta.to_below (by have := HK.out.2.2.a.lo; have := BH.out.size; omega) HK.out.2.2.a.own)
              have D6 : Hid (Disc w6 w.heap.size Lb S k (bytesOf (l.take k))) := by
                obtain ⟨La', ea, ha, ta, oa⟩ := hga
                exact Lib.hid ((HK.out.2.2.b.below BH.out).apart ta fun j h1 h2 => HK.out.2.2.sep j h2 h1)
              have AC6 := Lib.hid (AC5.out.kept (HB6.out.block b HBL.out.1))
              have HCB := Lib.hid (HDB.out w6 D6.out ((OL.out.below HB5.out).below HB6.out))
              clear hga a0 a1 a2 a3 a4 a5 a6 HCA HDO HDB
              obtain ⟨a0, a1, a2, a3, a4, a5, a6⟩ := AC6.out
              go_wp2_with fail
              refine HCB.out.mono ?_
              rintro e w7 ⟨rfl, hgb⟩
              obtain ⟨La3, Lb3, hea, heb, h3⟩ := third_of HK.out.2.2 DH.out BH.out HGA.out hgb HGO.out.1 HGO.out.2 HRS.out.1 HRS.out.2
              have TH := Lib.hid h3
              have HLA : Hid (La3.d = pa) := Lib.hid (hea.trans HK.out.1)
              have HLB : Hid (Lb3.d = pb) := Lib.hid (heb.trans HK.out.2.1)
              have AC7 := Lib.hid (AC6.out.kept ((TH.out.below.block b HBL.out.1).trans ((HK.out.2.2.below.trans (HB5.out.trans HB6.out)).block b HBL.out.1).symm))
              clear hgb hea heb h3 a0 a1 a2 a3 a4 a5 a6 HCB HGA D6 AC6 AC5
              obtain ⟨a0, a1, a2, a3, a4, a5, a6⟩ := AC7.out
              have hdw2 := down_any w7 TH.out.a.holds
              rw [HLA.out, HQ.out.2.2.1, show (S.lit (N - dn)).down = false from HK.out.2.2.down] at hdw2
              have HDW2 := Lib.hid hdw2
              clear hdw2
              go_wp2_with fail
              refine HDW2.out.mono ?_
              rintro e wz2 ⟨rfl, rfl⟩
              clear a0 a1 a2 a3 a4 a5 a6
              have hfu := fused_any wz2 TH.out.a.holds
              rw [HLA.out, HQ.out.2.2.1, show ((S.lit (N - dn)).fuse : Int) = (N : Int) - dn from hji] at hfu
              have HFU := Lib.hid hfu
              clear hfu
              clear hji
              go_wp2_with fail
              refine HFU.out.mono ?_
              rintro e wz3 ⟨rfl, rfl⟩
              go_wp2_with fail
              go_roundw
              case rel => exact ⟨k + 1, dn, La3, Lb3, S, by omega, by go_num, by go_num, by omega, Lib.hid ⟨HLA.out, HLB.out, ⟨by have := TH.out.a; rw [HQ.out.2.2.1] at this; exact this, by have := TH.out.b; rw [HQ.out.2.2.2] at this; exact this, HK.out.2.2.fuse, HK.out.2.2.down, HK.out.2.2.sole, HK.out.2.2.made, TH.out.sep, TH.out.below⟩⟩⟩
              case measure => simp [intOf]; omega
            · obtain ⟨cd, hcd⟩ : ∃ cd, cd = (does S x).2.2 := ⟨_, rfl⟩
              have hcn : cd ≠ 0 := by rw [hcd]; exact hc0
              have hji : ((N - dn : Nat) : Int) = N - dn := by omega
              have HQ : Hid ((does S x).2.2 = cd ∧ (does (S.lit (N - dn)) x).2.2 = cd ∧ (does (S.lit (N - dn)) x).1 = S.lit (N - dn) ∧ (does S x).1 = S) := Lib.hid ⟨hcd.symm, ec.trans hcd.symm, eA, eR⟩
              clear hne ec eA eR hcd
              clear hk6 hc0
              have HDO := Lib.hid fun (w5 : World) (hb5 : Below wr.heap.size wr w5) => does_any (HK.out.2.2.a.below hb5) (by have := HBB.out; omega) (by have := HBB.out; omega) x HFX.out vk vs (OL.out.below (hb5.mono HK.out.2.2.a.lo))
              unfold actV Did at HDO
              rw [HK.out.1, HST.out.1, HQ.out.2.1] at HDO
              have HDB := Lib.hid fun (w6 : World) (hD6 : Disc w6 w.heap.size Lb S k (bytesOf (l.take k))) (ho6 : Older w6 w.heap.size vk vs x.crash) => does_any hD6 (by have := HBB.out; omega) (by have := HBB.out; omega) x HFX.out vk vs ho6
              unfold actV Did at HDB
              rw [HK.out.2.1, HST.out.2, HQ.out.1] at HDB
              obtain ⟨a0, a1, a2, a3, a4, a5, a6⟩ := AC.out
              go_wp2_with fail
              refine HDW.out.mono ?_
              rintro e wz ⟨rfl, rfl⟩
              go_wp2_with fail
              refine HTW.out.mono ?_
              rintro e w5 ⟨Lh, rfl, hDh, hb5⟩
              obtain ⟨ph, hph⟩ : ∃ d, d = Lh.d := ⟨_, rfl⟩
              rw [← hph]
              have HPH : Hid (Lh.d = ph) := hph.symm
              have DH := Lib.hid hDh; have BH := Lib.hid hb5
              have AC5 := Lib.hid (AC.out.kept (hb5.block b HBL.out.2))
              have HCA := Lib.hid (HDO.out w5 hb5)
              have HB5 : Hid (Below w.heap.size wz w5) := Lib.hid (hb5.mono HK.out.2.2.a.lo)
              clear a0 a1 a2 a3 a4 a5 a6 hph hDh hb5
              obtain ⟨a0, a1, a2, a3, a4, a5, a6⟩ := AC5.out
              go_wp2_with fail
              refine HCA.out.mono ?_
              rintro e w6 ⟨rfl, hga⟩
              have HGA := Lib.hid hga
              have HB6 : Hid (Below w.heap.size w5 w6) := by
                obtain ⟨La', ea, ha, ta, oa⟩ := hga
                exact Lib.hid (ta.to_below (by have := HK.out.2.2.a.lo; have := BH.out.size; omega) HK.out.2.2.a.own)
              have D6 : Hid (Disc w6 w.heap.size Lb S k (bytesOf (l.take k))) := by
                obtain ⟨La', ea, ha, ta, oa⟩ := hga
                exact Lib.hid ((HK.out.2.2.b.below BH.out).apart ta fun j h1 h2 => HK.out.2.2.sep j h2 h1)
              have AC6 := Lib.hid (AC5.out.kept (HB6.out.block b HBL.out.1))
              have HCB := Lib.hid (HDB.out w6 D6.out ((OL.out.below HB5.out).below HB6.out))
              clear hga a0 a1 a2 a3 a4 a5 a6 HCA HDO HDB
              obtain ⟨a0, a1, a2, a3, a4, a5, a6⟩ := AC6.out
              go_wp2_with fail
              refine HCB.out.mono ?_
              rintro e w7 ⟨rfl, hgb⟩
              obtain ⟨La3, Lb3, hea, heb, h3⟩ := third_of HK.out.2.2 DH.out BH.out HGA.out hgb HGO.out.1 HGO.out.2 HRS.out.1 HRS.out.2
              have TH := Lib.hid h3
              have HLA : Hid (La3.d = pa) := Lib.hid (hea.trans HK.out.1)
              have HLB : Hid (Lb3.d = pb) := Lib.hid (heb.trans HK.out.2.1)
              have AC7 := Lib.hid (AC6.out.kept ((TH.out.below.block b HBL.out.1).trans ((HK.out.2.2.below.trans (HB5.out.trans HB6.out)).block b HBL.out.1).symm))
              clear hgb hea heb h3 a0 a1 a2 a3 a4 a5 a6 HCB HGA D6 AC6 AC5
              obtain ⟨a0, a1, a2, a3, a4, a5, a6⟩ := AC7.out
              have hdw2 := down_any w7 TH.out.a.holds
              rw [HLA.out, HQ.out.2.2.1, show (S.lit (N - dn)).down = false from HK.out.2.2.down] at hdw2
              have HDW2 := Lib.hid hdw2
              clear hdw2
              go_wp2_with fail
              refine HDW2.out.mono ?_
              rintro e wz2 ⟨rfl, rfl⟩
              clear a0 a1 a2 a3 a4 a5 a6
              have hfu := fused_any wz2 TH.out.a.holds
              rw [HLA.out, HQ.out.2.2.1, show ((S.lit (N - dn)).fuse : Int) = (N : Int) - dn from hji] at hfu
              have HFU := Lib.hid hfu
              clear hfu
              clear hji
              go_wp2_with fail
              refine HFU.out.mono ?_
              rintro e wz3 ⟨rfl, rfl⟩
              go_wp2_with fail
              go_roundw
              case rel => exact ⟨k + 1, dn, La3, Lb3, S, by omega, by go_num, by go_num, by omega, Lib.hid ⟨HLA.out, HLB.out, ⟨by have := TH.out.a; rw [HQ.out.2.2.1] at this; exact this, by have := TH.out.b; rw [HQ.out.2.2.2] at this; exact this, HK.out.2.2.fuse, HK.out.2.2.down, HK.out.2.2.sole, HK.out.2.2.made, TH.out.sep, TH.out.below⟩⟩⟩
              case measure => simp [intOf]; omega
    · obtain rfl : k = l.length := by omega
      clear hlt
      go_wp2_with fail
      refine (HA.out wr).mono ?_
      rintro e w13 ⟨rfl, hb13⟩
      have B13 := Lib.hid (Below.next HK.out.2.2.below hb13); clear hb13
      go_wp2_with fail
      go_ret
      exact ⟨rfl, B13.out⟩

theorem fuses_walk (room : Int) (a1 : Option Addr) (n1 c1 : Nat) (l : List Act) (f : Int) (w : World) (_ : -9223372036854775808 ≤ room ∧ room ≤ 9223372036854775807)
    (h1 : ActsRaw w (.slice a1 n1 c1) l) (hf : 0 ≤ f ∧ f ≤ 255) :
    Calls Try.prog 4 #[.int .i64 room, .slice a1 n1 c1, .int .u8 f] w (Gives (.bool true) w) := by
  cases e1 : greatL l with
  | true => exact fuses_great room a1 n1 c1 l f w h1 e1
  | false => exact fuses_small room a1 n1 c1 l f w h1 e1 hf

end Go.Proofs.Ytefoijamedciiaa
