/- The walk of EditPuts. -/
import Derived.Test.YtlhokfildhcdhaaEdS
import Derived.Test.YtlhokfildhcdhaaEditOnly
import Derived.Deep.RegionHeld3
namespace Go.Proofs.Ytlhokfildhcdhaa
open Go.RowKit Sk
set_option linter.unusedVariables false

set_option maxHeartbeats 8000000 in
theorem puts_great (ao : Option Addr) (an ac : Nat) (bo : Option Addr) (bn bc : Nat) (e : Edt) (w : World) (hA : SeesTb w (.slice ao an ac) e.add) (hD : SeesU w (.slice bo bn bc) e.drop) (hg : greatE e.add e.drop = true) :
    Calls Try.prog 5 #[edV ao an ac bo bn bc e.log e.seq e.next] w (Gives (.bool true) w) := by
  have HG : Hid (∀ W, SeesTb W (.slice ao an ac) e.add → Calls Try.prog 19 #[.agg #[.slice ao an ac, .slice bo bn bc, .int .u64 (e.log : Nat), .int .u64 (e.seq : Nat), .int .u64 (e.next : Nat)]] W (Gives (.bool true) W)) := Lib.hid (fun W h => by
    have := great_any ao an ac bo bn bc e W h hD.get.1.symm
    rw [hg] at this; exact this)
  have HA := Lib.hid hA
  have HB : Hid (∀ o, Below w.heap.size w (w.alloc o)) := Lib.hid (fun o => (Below.refl _ _).alloc (Nat.le_refl _) _)
  clear hA hD
  unfold edV
  go_enter Try.func5, Try.ntmps5
  go_wp2_with fail
  refine (HG.out _ (by first | exact HA.out | exact HA.out.below (HB.out _))).mono ?_
  rintro r w1 ⟨rfl, hb1⟩
  have HB1 : Hid (Below w.heap.size w w1) := Lib.hid (by first | exact hb1 | exact Below.next (HB.out _) hb1)
  clear hb1
  go_wp2_with fail
  refine (awake_any _).mono ?_
  rintro r w2 ⟨rfl, hb2⟩
  have HB2 : Hid (Below w.heap.size w w2) := Lib.hid (Below.next HB1.out hb2)
  clear hb2
  go_wp2_with fail
  go_ret
  exact ⟨rfl, HB2.out⟩

/-- An edit's box. -/
abbrev PtS (w : World) (b0 : Nat) (A0 D0 : Value) (lg sq nx : Nat) : Prop := w.cell? ⟨b0, 0, none⟩ = some A0 ∧ w.cell? ⟨b0, 1, none⟩ = some D0 ∧ w.cell? ⟨b0, 2, none⟩ = some (.int .u64 (lg : Nat)) ∧ w.cell? ⟨b0, 3, none⟩ = some (.int .u64 (sq : Nat)) ∧ w.cell? ⟨b0, 4, none⟩ = some (.int .u64 (nx : Nat))

set_option maxHeartbeats 8000000 in
theorem puts_small (ao : Option Addr) (an ac : Nat) (bo : Option Addr) (bn bc : Nat) (e : Edt) (w : World) (hA : SeesTb w (.slice ao an ac) e.add) (hD : SeesU w (.slice bo bn bc) e.drop) (hg : greatE e.add e.drop = false) (hI : Ed.In e) (c : Nat) (B : Bool) (hc : Ed.chk e.add e.drop = c) (hB : decide (Ed.chk e.add e.drop = 0) = B) (hcB : (c = 0 ∧ B = true) ∨ (c = 1 ∧ B = false)) :
    Calls Try.prog 5 #[edV ao an ac bo bn bc e.log e.seq e.next] w (Gives (.bool true) w) := by
  have HG : Hid (∀ W, SeesTb W (.slice ao an ac) e.add → Calls Try.prog 19 #[.agg #[.slice ao an ac, .slice bo bn bc, .int .u64 (e.log : Nat), .int .u64 (e.seq : Nat), .int .u64 (e.next : Nat)]] W (Gives (.bool false) W)) := Lib.hid (fun W h => by
    have := great_any ao an ac bo bn bc e W h hD.get.1.symm
    rw [hg] at this; exact this)
  obtain ⟨h60, h61, hsm⟩ := greatE_no hg
  have hal := hA.get.1
  have hdl := hD.get.1
  obtain ⟨X, hX⟩ : ∃ X : ByteArray, X = ⟨(Ed.encode e).1.toArray⟩ := ⟨_, rfl⟩
  obtain ⟨K, hK⟩ : ∃ K : Nat, K = (Ed.encode e).2 := ⟨_, rfl⟩
  have HE : Hid (∀ W, SeesTb W (.slice ao an ac) e.add → SeesU W (.slice bo bn bc) e.drop → Calls Try.prog 11 #[.agg #[.slice ao an ac, .slice bo bn bc, .int .u64 (e.log : Nat), .int .u64 (e.seq : Nat), .int .u64 (e.next : Nat)]] W (Gives (.tuple #[.string X, .int .i64 K]) W)) := Lib.hid (fun W h1 h2 => by
    have := encode_any ao an ac bo bn bc e W h1 h2 (by omega) (by omega) hI
    rw [hX, hK]; exact this)
  have HF : Hid (∀ W, SeesTb W (.slice ao an ac) e.add → SeesU W (.slice bo bn bc) e.drop → Calls Try.prog 20 #[.agg #[.slice ao an ac, .slice bo bn bc, .int .u64 (e.log : Nat), .int .u64 (e.seq : Nat), .int .u64 (e.next : Nat)]] W (Gives (.tuple #[.string X, .int .i64 K]) W)) := Lib.hid (fun W h1 h2 => by
    have := encref_any ao an ac bo bn bc e W h1 h2 (by omega) (by omega) hI
    rw [hX, hK]; exact this)
  have HC : Hid (∀ W, SeesTb W (.slice ao an ac) e.add → SeesU W (.slice bo bn bc) e.drop → Calls Try.prog 13 #[.agg #[.slice ao an ac, .slice bo bn bc, .int .u64 (e.log : Nat), .int .u64 (e.seq : Nat), .int .u64 (e.next : Nat)]] W (Gives (.int .i64 c) W)) := Lib.hid (fun W h1 h2 => by
    have := check_any ao an ac bo bn bc e W h1 h2 (by omega) (by omega)
    rw [hc] at this; exact this)
  have HM : Hid (∀ W, SeesTb W (.slice ao an ac) e.add → SeesU W (.slice bo bn bc) e.drop → Calls Try.prog 21 #[.agg #[.slice ao an ac, .slice bo bn bc, .int .u64 (e.log : Nat), .int .u64 (e.seq : Nat), .int .u64 (e.next : Nat)]] W (Gives (.bool B) W)) := Lib.hid (fun W h1 h2 => by
    have := may_any ao an ac bo bn bc e W h1 h2 (by omega) (by omega)
    rw [hB] at this; exact this)
  have HGV : Hid (∀ W, Calls Try.prog 16 #[.agg #[.slice ao an ac, .slice bo bn bc, .int .u64 (e.log : Nat), .int .u64 (e.seq : Nat), .int .u64 (e.next : Nat)]] W (Gives (.agg #[.slice ao an ac, .slice bo bn bc, .int .u64 (e.log : Nat), .int .u64 (e.seq : Nat), .int .u64 (e.next : Nat)]) W)) := Lib.hid (fun W => given_any ao an ac bo bn bc e.log e.seq e.next W)
  have HAW : Hid (∀ W, Calls Try.prog 18 #[] W (Gives (.bool true) W)) := Lib.hid (fun W => awake_any W)
  have HA := Lib.hid hA; have HD := Lib.hid hD
  have HX : Hid (Ex (w.alloc (.cells #[.slice ao an ac, .slice bo bn bc, .int .u64 (e.log : Nat), .int .u64 (e.seq : Nat), .int .u64 (e.next : Nat)] 29)) w.heap.size (.slice ao an ac) (.slice bo bn bc) e.log e.seq e.next) := Lib.hid (heap_alloc_new _ _)
  have HB : Hid (Below w.heap.size w (w.alloc (.cells #[.slice ao an ac, .slice bo bn bc, .int .u64 (e.log : Nat), .int .u64 (e.seq : Nat), .int .u64 (e.next : Nat)] 29))) := Lib.hid ((Below.refl _ _).alloc (Nat.le_refl _) _)
  clear hA hD hg hI hal hdl h60 h61 hsm hc hB hX hK
  unfold edV
  go_enter Try.func5, Try.ntmps5
  go_wp2_with fail
  refine (HG.out _ (HA.out.below HB.out)).mono ?_
  rintro r w1 ⟨rfl, hb1⟩
  have HB1 : Hid (Below w.heap.size w w1) := Lib.hid (Below.next HB.out hb1)
  have hx1 : Ex w1 w.heap.size (.slice ao an ac) (.slice bo bn bc) e.log e.seq e.next := kept_block HX.out hb1
  have HX1 := Lib.hid hx1
  obtain ⟨c0, c1, c2, c3, c4, cf, clt⟩ := hx1.of
  clear hb1 hx1 HX
  go_wp2_with fail
  refine (HE.out _ (HA.out.below HB1.out) (HD.out.below HB1.out)).mono ?_
  rintro r w2 ⟨rfl, hb2⟩
  have HB2 : Hid (Below w.heap.size w w2) := Lib.hid (Below.next HB1.out hb2)
  have hx2 : Ex w2 w.heap.size (.slice ao an ac) (.slice bo bn bc) e.log e.seq e.next := kept_block HX1.out hb2
  have HX2 := Lib.hid hx2
  clear c0 c1 c2 c3 c4 cf clt hb2 HX1 HB1
  obtain ⟨c0, c1, c2, c3, c4, cf, clt⟩ := hx2.of
  clear hx2
  go_wp2_with fail
  refine (HGV.out _).mono ?_
  rintro r w3 ⟨rfl, hb3⟩
  have HB3 : Hid (Below w.heap.size w w3) := Lib.hid (Below.next HB2.out hb3)
  have HX3 : Hid (Ex w3 w.heap.size (.slice ao an ac) (.slice bo bn bc) e.log e.seq e.next) := Lib.hid (kept_block HX2.out hb3)
  clear hb3 HX2 HB2 c0 c1 c2 c3 c4 cf clt
  go_wp2_with fail
  refine (HF.out _ (HA.out.below HB3.out) (HD.out.below HB3.out)).mono ?_
  rintro r w4 ⟨rfl, hb4⟩
  have HB4 : Hid (Below w.heap.size w w4) := Lib.hid (Below.next HB3.out hb4)
  have hx4 : Ex w4 w.heap.size (.slice ao an ac) (.slice bo bn bc) e.log e.seq e.next := kept_block HX3.out hb4
  have HX4 := Lib.hid hx4
  clear hb4 HX3 HB3
  obtain ⟨c0, c1, c2, c3, c4, cf, clt⟩ := hx4.of
  have HS4 : Hid (PtS w4 w.heap.size (.slice ao an ac) (.slice bo bn bc) e.log e.seq e.next) := Lib.hid ⟨c0, c1, c2, c3, c4⟩
  have HK : Hid (∀ v, Below w4.drew.heap.size w4.drew v → PtS v w.heap.size (.slice ao an ac) (.slice bo bn bc) e.log e.seq e.next) := Lib.hid (fun v hb => by
    have h : Ex v w.heap.size (.slice ao an ac) (.slice bo bn bc) e.log e.seq e.next := kept_block (w := w4.drew) HX4.out hb
    obtain ⟨c0, c1, c2, c3, c4, -, -⟩ := h.of
    exact ⟨c0, c1, c2, c3, c4⟩)
  have HBD : Hid (Below w.heap.size w w4.drew) := Lib.hid HB4.out.drew
  have HSA : Hid (∀ v, Below w4.drew.heap.size w4.drew v → SeesTb v (.slice ao an ac) e.add ∧ SeesU v (.slice bo bn bc) e.drop) := Lib.hid (fun v h => ⟨HA.out.below (Below.next HBD.out h), HD.out.below (Below.next HBD.out h)⟩)
  have HSD : Hid (SeesTb w4.drew (.slice ao an ac) e.add ∧ SeesU w4.drew (.slice bo bn bc) e.drop) := Lib.hid ⟨HA.out.below HBD.out, HD.out.below HBD.out⟩
  clear hx4 HE HF HG HA HD HX4 HB4 HB
  rcases hcB with ⟨rfl, rfl⟩ | ⟨rfl, rfl⟩
  all_goals
    go_wp2_with fail
    go_region_held3 (fun w' => PtS w' w.heap.size (.slice ao an ac) (.slice bo bn bc) e.log e.seq e.next)
      (first
        | exact HS4.out
        | go_keep
        | exact HK.out _ (Below.next (Below.next (Below.next hb5 hb6) hb7) hb8)
        | exact HK.out _ (Below.next (Below.next hb5 hb6) hb7)
        | exact HK.out _ (Below.next hb5 hb6)
        | exact HK.out _ hb5)
      (first
        | (go_at_call 13; (with_reducible refine (HC.out _ HSD.out.1 HSD.out.2).mono ?_); rintro r w5 ⟨rfl, hb5⟩)
        | (go_at_call 16; (with_reducible refine (HGV.out _).mono ?_); rintro r w6 ⟨rfl, hb6⟩)
        | (go_at_call 21; (with_reducible refine (HM.out _ (HSA.out _ (Below.next hb5 hb6)).1 (HSA.out _ (Below.next hb5 hb6)).2).mono ?_); rintro r w7 ⟨rfl, hb7⟩)
        | (go_at_call 18; (with_reducible refine (HAW.out _).mono ?_); rintro r w8 ⟨rfl, hb8⟩))
    all_goals
      have HB8 : Hid (Below w.heap.size w w8) := Lib.hid (Below.next HBD.out (Below.next (Below.next (Below.next hb5 hb6) hb7) hb8))
      clear hb5 hb6 hb7 hb8
      go_wp2_with fail
      go_ret
      exact ⟨rfl, HB8.out⟩

theorem puts_walk (ao : Option Addr) (an ac : Nat) (bo : Option Addr) (bn bc : Nat) (e : Edt) (w : World) (hA : SeesTb w (.slice ao an ac) e.add) (hD : SeesU w (.slice bo bn bc) e.drop) (hI : Ed.In e) (hT : ∀ t ∈ e.add, TbShort t) :
    Calls Try.prog 5 #[edV ao an ac bo bn bc e.log e.seq e.next] w (Gives (.bool true) w) := by
  cases hg : greatE e.add e.drop with
  | true => exact puts_great ao an ac bo bn bc e w hA hD hg
  | false =>
    by_cases h : Ed.chk e.add e.drop = 0
    · exact puts_small ao an ac bo bn bc e w hA hD hg hI 0 true h (by rw [h]; rfl) (Or.inl ⟨rfl, rfl⟩)
    · have h1 : Ed.chk e.add e.drop = 1 := by
        unfold Ed.chk at h ⊢
        split at h
        · exact absurd rfl h
        · rename_i hn; rw [if_neg hn]
      exact puts_small ao an ac bo bn bc e w hA hD hg hI 1 false h1 (by rw [h1]; rfl) (Or.inr ⟨rfl, rfl⟩)

end Go.Proofs.Ytlhokfildhcdhaa
