/- The walks of awake, Great, made. -/
import Derived.Test.YtghfgffgcknbmaaSkAct
import Derived.Deep.QuietTactic
import Derived.BigQuiet
namespace Go.Proofs.Ytghfgffgcknbmaa.Sk
open Go Go.RowKit
set_option linter.unusedVariables false

/-- A list of the call's own: its blocks lie from a base on. -/
structure Mine (base : Nat) (w : World) (L : Lay) (s r : List (It ByteArray)) : Prop where
  lies : ListS w L s r
  from_ : ∀ b, Own L s b → base ≤ b
theorem Mine.below {base : Nat} {w w' : World} {L : Lay} {s r : List (It ByteArray)} (h : Mine base w L s r) (hb : Below w.heap.size w w') : Mine base w' L s r := ⟨h.lies.below hb, h.from_⟩
/-- What a Set leaves. -/
def SetTo (base : Nat) (L : Lay) (s r : List (It ByteArray)) (x : It ByteArray) (w w' : World) : Prop := ∃ L', L'.b = L.b ∧ Mine base w' L' (put x s) (rput x r) ∧ Turns (Own L s) w w'
theorem set_mine {base : Nat} {w : World} {L : Lay} {s r : List (It ByteArray)} (h : Mine base w L s r) (hbase : base ≤ w.heap.size) (K V : ByteArray) (H : Int) (hK : K.size ≤ 1000000) (hr : r.length < 100000) :
    Calls Try.prog 13 #[.pointer (some ⟨L.b, 0, none⟩), .string K, .string V, .int .i64 H] w fun e w' => e = .returned (.bool (find K.data.toList s).isNone) ∧ SetTo base L s r ⟨K.data.toList, V, clampH H⟩ w w' := by
  refine (set_any h.lies K V H hK hr).mono ?_
  rintro e w' ⟨rfl, L', h1, h2, h3, h4⟩
  refine ⟨rfl, L', h1, ⟨h2, fun b hb => ?_⟩, h3⟩
  rcases h4 b hb with h5 | h5
  · exact h.from_ b h5
  · omega
theorem Turns.base {base : Nat} {w w' : World} {L : Lay} {s r : List (It ByteArray)} (h : Mine base w L s r) (ht : Turns (Own L s) w w') (hbase : base ≤ w.heap.size) : Below base w w' := ht.to_below hbase h.from_

theorem length_rput_le {x : It ByteArray} {r : List (It ByteArray)} (h : One r) : (rput x r).length ≤ r.length + 1 := by
  rw [length_rput h]
  split <;> omega

set_option maxHeartbeats 4000000 in
set_option maxRecDepth 100000 in
theorem awake_any (w : World) : Calls Try.prog 10 #[] w fun e w' => e = .returned (.bool true) ∧ Below w.heap.size w w' := by
  have HNEW := Lib.hid (new_any w)
  have HS1 := Lib.hid (fun W L (h : Mine w.heap.size W L [] []) (hb : w.heap.size ≤ W.heap.size) => set_mine h hb ⟨#[98]⟩ ⟨#[49]⟩ 2 (by decide) (by decide))
  have HS2 := Lib.hid (fun W L (h : Mine w.heap.size W L [⟨[98], ⟨#[49]⟩, 2⟩] [⟨[98], ⟨#[49]⟩, 2⟩]) (hb : w.heap.size ≤ W.heap.size) => set_mine h hb ⟨#[97]⟩ ⟨#[50]⟩ 0 (by decide) (by decide))
  have HS3 := Lib.hid (fun W L (h : Mine w.heap.size W L [⟨[97], ⟨#[50]⟩, 1⟩, ⟨[98], ⟨#[49]⟩, 2⟩] [⟨[98], ⟨#[49]⟩, 2⟩, ⟨[97], ⟨#[50]⟩, 1⟩]) (hb : w.heap.size ≤ W.heap.size) => set_mine h hb ⟨#[98]⟩ ⟨#[51]⟩ 1 (by decide) (by decide))
  have HA := Lib.hid (fun W L (h : ListS W L [⟨[97], ⟨#[50]⟩, 1⟩, ⟨[98], ⟨#[51]⟩, 2⟩] [⟨[98], ⟨#[51]⟩, 2⟩, ⟨[97], ⟨#[50]⟩, 1⟩]) => after_any h ⟨#[97]⟩)
  have HR := Lib.hid (fun W L (h : ListS W L [⟨[97], ⟨#[50]⟩, 1⟩, ⟨[98], ⟨#[51]⟩, 2⟩] [⟨[98], ⟨#[51]⟩, 2⟩, ⟨[97], ⟨#[50]⟩, 1⟩]) => rows_any h 1)
  have HL := Lib.hid (fun W L (h : ListS W L [⟨[97], ⟨#[50]⟩, 1⟩, ⟨[98], ⟨#[51]⟩, 2⟩] [⟨[98], ⟨#[51]⟩, 2⟩, ⟨[97], ⟨#[50]⟩, 1⟩]) => len_any h)
  go_enter Try.func10, Try.ntmps10
  go_wp2_with fail
  refine HNEW.out.mono ?_
  rintro e w1 ⟨rfl, hb1, hl1⟩
  have M1 : Hid (Mine w.heap.size w1 ⟨w.heap.size, .slice none 0 0, fun _ => 0⟩ [] []) := Lib.hid ⟨hl1, fun b hb => by
    rcases hb with rfl | hb | ⟨y, hy, _⟩
    · exact Nat.le_refl _
    · simp [Value.ownBlock] at hb
    · cases hy⟩
  have B1 := Lib.hid hb1
  clear hb1 hl1
  go_wp2_with fail
  refine (HS1.out w1 _ M1.out B1.out.size).mono ?_
  rintro e w2 ⟨rfl, L2, hL2, m2, t2⟩
  have B2 := Lib.hid (B1.out.trans (t2.base M1.out B1.out.size))
  have M2 : Hid (Mine w.heap.size w2 L2 [⟨[98], ⟨#[49]⟩, 2⟩] [⟨[98], ⟨#[49]⟩, 2⟩]) := Lib.hid m2
  have hL2' : L2.b = w.heap.size := hL2
  have C2 := HS2.out w2 L2 M2.out B2.out.size
  rw [hL2'] at C2
  clear m2 t2 hL2
  go_wp2_with fail
  refine C2.mono ?_
  clear C2
  rintro e w3 ⟨rfl, L3, hL3, m3, t3⟩
  have B3 := Lib.hid (B2.out.trans (t3.base M2.out B2.out.size))
  have M3 : Hid (Mine w.heap.size w3 L3 [⟨[97], ⟨#[50]⟩, 1⟩, ⟨[98], ⟨#[49]⟩, 2⟩] [⟨[98], ⟨#[49]⟩, 2⟩, ⟨[97], ⟨#[50]⟩, 1⟩]) := Lib.hid m3
  have hL3' : L3.b = w.heap.size := hL3.trans hL2'
  have C3 := HS3.out w3 L3 M3.out B3.out.size
  rw [hL3'] at C3
  clear m3 t3 hL3
  go_wp2_with fail
  refine C3.mono ?_
  clear C3
  rintro e w4 ⟨rfl, L4, hL4, m4, t4⟩
  have B4 := Lib.hid (B3.out.trans (t4.base M3.out B3.out.size))
  have M4 : Hid (Mine w.heap.size w4 L4 [⟨[97], ⟨#[50]⟩, 1⟩, ⟨[98], ⟨#[51]⟩, 2⟩] [⟨[98], ⟨#[51]⟩, 2⟩, ⟨[97], ⟨#[50]⟩, 1⟩]) := Lib.hid m4
  have hL4' : L4.b = w.heap.size := hL4.trans hL3'
  have C4 := HA.out w4 L4 M4.out.lies
  rw [hL4'] at C4
  clear m4 t4 hL4
  go_wp2_with fail
  refine C4.mono ?_
  clear C4
  rintro e w5 ⟨rfl, hb5⟩
  have M5 := Lib.hid (M4.out.below hb5)
  have B5 := Lib.hid (Below.next B4.out hb5)
  have C5 := HR.out w5 L4 M5.out.lies
  rw [hL4'] at C5
  clear hb5
  rw [show tellV (after (⟨#[97]⟩ : ByteArray).data.toList [⟨[97], ⟨#[50]⟩, 1⟩, ⟨[98], ⟨#[51]⟩, 2⟩]) = .tuple #[.string ⟨#[98]⟩, .string ⟨#[51]⟩, .bool true] from rfl]
  go_wp2_with fail
  refine C5.mono ?_
  clear C5
  rintro e w6 ⟨v, rfl, hv, hb6⟩
  have M6 := Lib.hid (M5.out.below hb6)
  have B6 := Lib.hid (Below.next B5.out hb6)
  have C6 := HL.out w6 L4 M6.out.lies
  rw [hL4'] at C6
  obtain ⟨g, cap, hsh, _, _, _, _, hcell⟩ := row_shape hv (by decide)
  have hc0 : w6.cell? ⟨g, 0, none⟩ = some (.string ⟨#[98]⟩) := hcell 0 _ rfl
  rw [hsh, show (rowL 1 [(⟨[97], ⟨#[50]⟩, 1⟩ : It ByteArray), ⟨[98], ⟨#[51]⟩, 2⟩]).length = 1 from rfl]
  clear hb6 hcell hv hsh
  have C7 := Lib.hid C6
  clear C6
  go_wp2_with (go_at_call 15; refine C7.out.mono ?_; rintro e w7 ⟨rfl, rfl⟩)
  go_ret
  exact ⟨rfl, B6.out⟩

/-- What statements go through. -/
def Small (l : List Ac) : Prop := l.length ≤ 120 ∧ ∀ x ∈ l, x.key.size ≤ 20000 ∧ x.val.size ≤ 20000
def GreatSaid (l : List Ac) (w : World) (e : Ending) (w' : World) : Prop := ∃ b, e = .returned (.bool b) ∧ Below w.heap.size w w' ∧ (b = false → Small l)
set_option maxHeartbeats 4000000 in
set_option maxRecDepth 100000 in
theorem great_any {ao : Option Addr} {n cap : Nat} {l : List Ac} (w : World) (h : SeesA w (.slice ao n cap) l) : Calls Try.prog 9 #[.slice ao n cap] w (GreatSaid l w) := by
  have HL : Hid (l.length = n) := Lib.hid h.len
  have HS := Lib.hid h; clear h
  by_cases hg : 120 < n
  · go_enter Try.func9, Try.ntmps9
    go_wp2_with fail
    go_ret
    exact ⟨true, rfl, Below.refl _ _, fun h => by cases h⟩
  · have hg2 : (n : Int) ≤ 120 := by omega
    go_enter Try.func9, Try.ntmps9
    go_wp2_with fail
    go_loopw [3, 4] (fun m i wr => ∃ (k : Nat) (M : Int), k ≤ n ∧ i = .int .i64 (k : Int) ∧ m = .int .i64 M ∧ 0 ≤ M ∧ M ≤ (k : Int) * 40000 ∧ Hid (Below w.heap.size w wr) ∧ Hid (∀ i x, i < k → l[i]? = some x → x.key.size ≤ 20000 ∧ x.val.size ≤ 20000)) (fun _ i _ => n - (intOf i).toNat)
    case atStart => exact ⟨0, 0, Nat.zero_le _, rfl, rfl, by omega, by omega, Lib.hid (Below.refl _ _), Lib.hid (fun i x hi => by omega)⟩
    case round =>
      obtain ⟨k, M, hk, rfl, rfl, hM0, hM1, HB, HX⟩ := hrel
      by_cases hkn : k < n
      · obtain ⟨x, hx⟩ : ∃ x, l[k]? = some x := ⟨l[k]'(by rw [HL.out]; exact hkn), List.getElem?_eq_getElem _⟩
        obtain ⟨b, off, rfl, hb, _, _, c1, c2, _⟩ := (HS.out.below HB.out).get hx
        have HXX := Lib.hid hx
        obtain ⟨key, hkey⟩ : ∃ key, key = x.key := ⟨_, rfl⟩
        obtain ⟨val, hval⟩ : ∃ val, val = x.val := ⟨_, rfl⟩
        rw [← hkey] at c1
        rw [← hval] at c2
        have HK := Lib.hid hkey; have HV := Lib.hid hval
        clear hx hkey hval
        have hki : (k : Int) < n := by omega
        by_cases h1 : 20000 < key.size
        · go_wp2_with fail
          go_ret
          exact ⟨true, rfl, HB.out, fun h => by cases h⟩
        · by_cases h2 : 20000 < val.size
          · have h1' : (key.size : Int) ≤ 20000 := by omega
            go_wp2_with fail
            go_ret
            exact ⟨true, rfl, HB.out, fun h => by cases h⟩
          · have h1' : (key.size : Int) ≤ 20000 := by omega
            have h2' : (val.size : Int) ≤ 20000 := by omega
            go_wp2_with fail
            go_quiet (fail)
            go_wp2_with fail
            go_roundw
            case rel => exact ⟨k + 1, M + key.size + val.size, by omega, by go_num, by go_num, by omega, by omega, Lib.hid (below_drewN HB.out _), Lib.hid (fun i y hi hy => by
                by_cases e : i = k
                · subst e
                  have := HXX.out.symm.trans hy
                  obtain rfl := Option.some.inj this
                  rw [← HK.out, ← HV.out]; omega
                · exact HX.out i y (by omega) hy)⟩
            case measure => simp [intOf]; omega
      · obtain rfl : k = n := by omega
        go_wp2_with fail
        go_ret
        refine ⟨_, rfl, HB.out, fun _ => ⟨by rw [HL.out]; omega, fun x hx => ?_⟩⟩
        obtain ⟨i, hi, rfl⟩ := List.getElem_of_mem hx
        exact HX.out i _ (by rw [← HL.out]; exact hi) (List.getElem?_eq_getElem hi)

end Go.Proofs.Ytghfgffgcknbmaa.Sk
