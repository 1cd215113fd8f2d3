/- An act that asks, of a list and of the document's. -/
import Derived.Test.YtghfgffgcknbmaaSkZ
namespace Go.Proofs.Ytghfgffgcknbmaa.Sk
open Go Go.RowKit
set_option linter.unusedVariables false

def actV (x : Ac) : Value := .agg #[.int .u8 (x.op : Int), .string x.key, .string x.val, .int .i64 x.h]
theorem getV_form (o : Option (It ByteArray)) : ∃ v ok, getV o = .tuple #[.string v, .bool ok] := by cases o <;> exact ⟨_, _, rfl⟩
theorem tell_form (o : Option (It ByteArray)) : ∃ k v ok h, tellV o = .tuple #[.string k, .string v, .bool ok] ∧ leastV o = .tuple #[.agg #[.string k, .string v, .int .i64 h], .bool ok] := by
  cases o with
  | none => exact ⟨ByteArray.empty, ByteArray.empty, false, 0, rfl, rfl⟩
  | some y => exact ⟨_, _, _, _, rfl, rfl⟩

set_option maxHeartbeats 2000000 in
set_option maxRecDepth 100000 in
theorem asks_any {b0 : Nat} {w : World} {q ao : Option Addr} {m cap : Nat} {s r : List (It ByteArray)} (h : Lst w q s r) (hi : Items b0 w (.slice ao m cap) r) (x : Ac) (hK : x.key.size ≤ 1000000) (hx : x.op < 256) :
    Calls Try.prog 14 #[.pointer q, .slice ao m cap, actV x] w fun e w' => e = .returned (.bool true) ∧ Below w.heap.size w w' := by
  have HL := Lib.hid h
  have HI := Lib.hid hi
  obtain rfl : m = r.length := (row_here hi).1
  have hb : (x.op : Int) < 256 := by omega
  have HK := Lib.hid h.kin
  have HLE := Lib.hid (fun (W : World) (hb : Below w.heap.size w W) (above : Bool) => least_any (hi.below hb) x.key above hK h.small h.few)
  unfold actV
  have HB0 : Hid (Below w.heap.size w (w.alloc (.cells #[.int .u8 (x.op : Int), .string x.key, .string x.val, .int .i64 x.h] 33))) := Lib.hid ((Below.refl _ _).alloc (Nat.le_refl _) _)
  have HX : Hid (∀ W, Below (w.heap.size + 1) (w.alloc (.cells #[.int .u8 (x.op : Int), .string x.key, .string x.val, .int .i64 x.h] 33)) W → W.cell? ⟨w.heap.size, 0, none⟩ = some (.int .u8 (x.op : Int)) ∧ W.cell? ⟨w.heap.size, 1, none⟩ = some (.string x.key) ∧ W.cell? ⟨w.heap.size, 3, none⟩ = some (.int .i64 x.h)) := Lib.hid fun W hb => by
    have e := (hb.block w.heap.size (Nat.lt_succ_self _)).trans (heap_alloc_new w _)
    exact ⟨cell_of e, cell_of e, cell_of e⟩
  clear h hi
  by_cases h1 : x.op = 1
  · obtain ⟨v, ok, hv⟩ := getV_form (find x.key.data.toList s)
    have HG := Lib.hid (fun (W : World) (hb : Below w.heap.size w W) => lGet (HL.out.below hb) x.key)
    have HR := Lib.hid (fun (W : World) (hb : Below w.heap.size w W) => refGet_any (HI.out.below hb) x.key HL.out.few)
    rw [hv] at HG
    rw [← HK.out.find, hv] at HR
    rw [h1] at HB0 HX ⊢
    clear hv h1 hb HLE
    go_enter Try.func14, Try.ntmps14
    go_wp2_with fail
    refine (HG.out _ HB0.out).mono ?_
    rintro e w1 ⟨rfl, hb1⟩
    have HB := Lib.hid (Below.next HB0.out hb1)
    have HX1 : Hid (Below (w.heap.size + 1) _ w1) := Lib.hid (hb1.mono (by simp))
    obtain ⟨x0, x1, x3⟩ := HX.out _ HX1.out
    clear hb1
    go_wp2_with fail
    refine (HR.out _ HB.out).mono ?_
    rintro e w2 ⟨rfl, rfl⟩
    go_wp2_with fail
    go_ret
    exact ⟨rfl, HB.out⟩
  · by_cases h2 : x.op = 2
    · obtain ⟨k, v, ok, hh, hv, hv2⟩ := tell_form (seek x.key.data.toList s)
      have HG := Lib.hid (fun (W : World) (hb : Below w.heap.size w W) => lSeek (HL.out.below hb) x.key)
      have HR := Lib.hid (fun (W : World) (hb : Below w.heap.size w W) => HLE.out W hb false)
      rw [hv] at HG
      rw [HK.out.seek, hv2] at HR
      rw [h2] at HB0 HX ⊢
      clear hv hv2 h1 h2 hb HLE
      go_enter Try.func14, Try.ntmps14
      go_wp2_with fail
      refine (HG.out _ HB0.out).mono ?_
      rintro e w1 ⟨rfl, hb1⟩
      have HB := Lib.hid (Below.next HB0.out hb1)
      have HX1 : Hid (Below (w.heap.size + 1) _ w1) := Lib.hid (hb1.mono (by simp))
      obtain ⟨x0, x1, x3⟩ := HX.out _ HX1.out
      clear hb1
      go_wp2_with fail
      refine (HR.out _ HB.out).mono ?_
      rintro e w2 ⟨rfl, hb2⟩
      have HB2 := Lib.hid (Below.next HB.out hb2)
      have HX2 : Hid (Below (w.heap.size + 1) _ w2) := Lib.hid (HX1.out.trans (hb2.mono (by have := HX1.out.size; simp at this; omega)))
      obtain ⟨y0, y1, y3⟩ := HX.out _ HX2.out
      clear hb2
      go_wp2_with fail
      go_ret
      exact ⟨rfl, HB2.out.alloc HB2.out.size _⟩
    · by_cases h3 : x.op = 3
      · obtain ⟨k0, v0, ok0, hh0, hv0, _⟩ := tell_form (seek x.key.data.toList s)
        obtain ⟨k, v, ok, hh, hv, hv2⟩ := tell_form (after x.key.data.toList s)
        have HG := Lib.hid (fun (W : World) (hb : Below w.heap.size w W) => lSeek (HL.out.below hb) x.key)
        have HA := Lib.hid (fun (W : World) (hb : Below w.heap.size w W) => lAfter (HL.out.below hb) x.key)
        have HR := Lib.hid (fun (W : World) (hb : Below w.heap.size w W) => HLE.out W hb true)
        rw [hv0] at HG
        rw [hv] at HA
        rw [HK.out.after, hv2] at HR
        rw [h3] at HB0 HX ⊢
        clear hv hv2 h1 h2 h3 hb HLE hv0
        go_enter Try.func14, Try.ntmps14
        go_wp2_with fail
        refine (HG.out _ HB0.out).mono ?_
        rintro e w1 ⟨rfl, hb1⟩
        have HB := Lib.hid (Below.next HB0.out hb1)
        have HX1 : Hid (Below (w.heap.size + 1) _ w1) := Lib.hid (hb1.mono (by simp))
        obtain ⟨x0, x1, x3⟩ := HX.out _ HX1.out
        clear hb1
        go_wp2_with fail
        refine (HA.out _ HB.out).mono ?_
        rintro e w2 ⟨rfl, hb2⟩
        have HB2 := Lib.hid (Below.next HB.out hb2)
        have HX2 : Hid (Below (w.heap.size + 1) _ w2) := Lib.hid (HX1.out.trans (hb2.mono (by have := HX1.out.size; simp at this; omega)))
        obtain ⟨y0, y1, y3⟩ := HX.out _ HX2.out
        clear hb2
        go_wp2_with fail
        refine (HR.out _ HB2.out).mono ?_
        rintro e w3 ⟨rfl, hb3⟩
        have HB3 := Lib.hid (Below.next HB2.out hb3)
        clear hb3
        go_wp2_with fail
        go_ret
        exact ⟨rfl, HB3.out.alloc HB3.out.size _⟩
      · by_cases h4 : x.op = 4
        · have HG := Lib.hid (fun (W : World) (hb : Below w.heap.size w W) => lRow (HL.out.below hb) x.h)
          have HR := Lib.hid (fun (W : World) (hb : Below w.heap.size w W) v (hv : W.ownsRow w.heap.size 9 1 v (rowL x.h s).length (keyCells (rowL x.h s))) => hv)
          rw [h4] at HB0 HX ⊢
          clear h1 h2 h3 h4 hb HLE
          go_enter Try.func14, Try.ntmps14
          go_wp2_with fail
          have hbd : Below w.heap.size w (w.alloc (.cells #[.int .u8 ((4 : Nat) : Int), .string x.key, .string x.val, .int .i64 x.h] 33)).drew := HB0.out.trans ⟨rfl, rfl, rfl, Nat.le_refl _, fun _ _ => rfl⟩
          have HBD := Lib.hid hbd
          have x3 : (w.alloc (.cells #[.int .u8 ((4 : Nat) : Int), .string x.key, .string x.val, .int .i64 x.h] 33)).drew.cell? ⟨w.heap.size, 3, none⟩ = some (.int .i64 x.h) := (HX.out _ ⟨rfl, rfl, rfl, Nat.le_refl _, fun _ _ => rfl⟩).2.2
          clear hbd
          go_region_held3 (fun w' => w'.cell? ⟨w.heap.size, 3, none⟩ = some (.int .i64 x.h))
            (first
              | (go_keep; done)
              | exact (hb2.cell (p := ⟨w.heap.size, 3, none⟩) (by simp)).trans ((hb1.cell (p := ⟨w.heap.size, 3, none⟩) (by simp)).trans x3)
              | exact (hb1.cell (p := ⟨w.heap.size, 3, none⟩) (by simp)).trans x3)
            (first
              | (go_at_call 31; refine (HG.out _ HBD.out).mono ?_; rintro e w1 ⟨v, rfl, hv, hb1⟩
                 obtain ⟨a1, cap1, e1⟩ := row_any hv
                 subst e1
                 have HC := Lib.hid (lawRow_any x.h hv hb1.size (HI.out.below (Below.next HBD.out hb1)) HK.out HL.out.small HL.out.few HL.out.hgt))
              | (go_at_call 39; refine HC.out.mono ?_; rintro e w2 ⟨rfl, hb2⟩
                 have HB2 := Lib.hid ((HBD.out.trans (hb1.mono (by simp))).trans (hb2.mono (by simp)))))
          go_wp2_with fail
          go_ret
          exact ⟨rfl, HB2.out⟩
        · have g1 : ¬ (x.op : Int) = 1 := by omega
          have g2 : ¬ (x.op : Int) = 2 := by omega
          have g3 : ¬ (x.op : Int) = 3 := by omega
          have g4 : ¬ (x.op : Int) = 4 := by omega
          clear h1 h2 h3 h4 HLE
          go_enter Try.func14, Try.ntmps14
          go_wp2_with fail
          go_ret
          exact ⟨rfl, HB0.out⟩

end Go.Proofs.Ytghfgffgcknbmaa.Sk
