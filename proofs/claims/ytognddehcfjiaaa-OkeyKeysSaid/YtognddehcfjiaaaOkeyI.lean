/- Walks of layer 2's statements' own helpers: awake, Great, Given, plain. -/
import Derived.Test.YtognddehcfjiaaaOkeyH
import Derived.Test.YtognddehcfjiaaaRefRow
namespace Go.Proofs.Ytognddehcfjiaaa
open Go.RowKit
set_option linter.unusedVariables false

def awakeL : List Pt := [⟨false, ⟨#[]⟩, 5⟩, ⟨true, ⟨#[97, 0, 98]⟩, 0⟩]
theorem keyl_awake : keyl awakeL = [1, 5, 2, 97, 0, 255, 98, 0, 1] := by kernel_rfl
theorem prl_awake : prl (⟨#[1, 5, 2, 97, 0, 255, 98, 0, 1]⟩ : ByteArray).data.toList = some awakeL := by kernel_rfl
theorem cmpL_awake : cmpL (awakeL.take 1) awakeL = -1 := by kernel_rfl

/-- Parts that were just laid. -/
theorem sees_builtP {w : World} {cs : Array Value} {t : TypeId} {ps : List Pt} (h : ∀ i, i < ps.length → cs[i * 3]? = some (.bool (ps.getD i pd).t) ∧ cs[i * 3 + 1]? = some (.string (ps.getD i pd).s) ∧ cs[i * 3 + 2]? = some (.int .u64 (ps.getD i pd).n)) (cap : Nat) :
    SeesP (w.alloc (.cells cs t)) (.slice (some ⟨w.heap.size, 0, none⟩) ps.length cap) ps := by
  refine Or.inr ⟨w.heap.size, 0, cap, rfl, by simp, fun i hi => ?_⟩
  obtain ⟨h0, h1, h2⟩ := h i hi
  unfold PtAt
  rw [World.cell?_alloc_mark, World.cell?_alloc_mark, World.cell?_alloc_mark, Nat.zero_add]
  exact ⟨h0, h1, h2⟩
theorem SeesP.take {w : World} {b off n cap m : Nat} {ps : List Pt} (h : SeesP w (.slice (some ⟨b, off, none⟩) n cap) ps) (hm : m ≤ n) (hlt : b < w.heap.size) : SeesP w (.slice (some ⟨b, off, none⟩) m cap) (ps.take m) := by
  obtain ⟨hl, b', off', hc⟩ := h.get
  have hl2 : (ps.take m).length = m := by rw [List.length_take]; omega
  refine Or.inr ⟨b, off, cap, by rw [hl2], hlt, fun i hi => ?_⟩
  obtain ⟨e, _, hp⟩ := hc i (by omega)
  simp only [Option.some.injEq, Addr.mk.injEq] at e
  obtain ⟨rfl, rfl, _⟩ := e
  have : (ps.take m).getD i pd = ps.getD i pd := by
    rw [hl2] at hi
    simp [hi]
  rw [this]
  exact hp

set_option maxRecDepth 100000 in
set_option maxHeartbeats 2000000 in
theorem awake_any (w : World) : Calls Try.prog 15 #[] w (Gives (.bool true) w) := by
  go_enter Try.func15, Try.ntmps15
  go_wp2_with fail
  refine (num_any 5 _).mono ?_
  rintro e w1 ⟨rfl, hb1⟩
  unfold partV
  go_wp2_with fail
  refine (str_any _ _ (by decide)).mono ?_
  rintro e w2 ⟨rfl, hb2⟩
  unfold partV
  go_wp2_with fail
  refine (key_any _ _ _ awakeL _ (sees_builtP (ps := awakeL) (fun i hi => ?_) 2) (by decide) (by decide) (fun i => ?_)).mono ?_
  · match i, hi with
    | 0, _ => exact ⟨rfl, rfl, rfl⟩
    | 1, _ => exact ⟨rfl, rfl, rfl⟩
  · match i with
    | 0 => decide
    | 1 => decide
    | _ + 2 => simp [awakeL, pd]
  rintro e w3 ⟨rfl, hb3⟩
  rw [keyl_awake]
  go_wp2_with fail
  refine (parts_any _ _ (by decide)).mono ?_
  rintro e w4 ⟨hb4, hp⟩
  rw [prl_awake] at hp
  rcases hp with ⟨h, _⟩ | ⟨ps, v, h, rfl, hown⟩
  · cases h
  · simp only [Option.some.injEq] at h
    subst h
    have HB : Hid (Below w.heap.size w w4) := Below.next (Below.next (Below.next_alloc (Below.next hb1 hb2) _) hb3) hb4
    have hs := hown.sees
    rcases hs with ⟨h, _⟩ | ⟨b, off, cap, rfl, hlt, hc⟩
    · cases h
    · obtain ⟨c0, c1, c2⟩ := hc 0 (by decide)
      obtain ⟨d0, d1, d2⟩ := hc 1 (by decide)
      have HS := Lib.hid hown.sees
      have HLT := Lib.hid hlt
      have hcap : (2 : Int) ≤ cap := by
        rcases hown.2 with ⟨h, _⟩ | ⟨g, cp, cur, h, _, _, hnc, _⟩
        · cases h
        · simp only [Value.slice.injEq] at h
          obtain ⟨_, _, rfl⟩ := h
          have : awakeL.length = 2 := rfl
          omega
      clear hc hown hb1 hb2 hb3 hb4 hlt
      have e2 : awakeL.length = 2 := rfl
      rw [e2] at HS ⊢
      clear e2
      dsimp only [awakeL, List.getD_cons_zero, List.getD_cons_succ] at c0 c1 c2 d0 d1 d2
      go_wp2_with fail
      refine (compare_any _ _ _ _ _ _ _ _ _ (HS.out.take (m := 1) (by decide) HLT.out) HS.out (by decide) (by decide)).mono ?_
      rintro e w5 ⟨rfl, hb5⟩
      rw [cmpL_awake]
      go_wp2_with fail
      go_ret
      exact ⟨rfl, Below.next HB.out hb5⟩

end Go.Proofs.Ytognddehcfjiaaa
