/- The walks of block's At, Seek. -/
import Derived.Test.YtjpmcphfiiiecaaBoH
import Derived.Deep.RegionHeld3
namespace Go.Proofs.Ytjpmcphfiiiecaa.Bo
open Go Go.RowKit
set_option linter.unusedVariables false

/-- The box of an entry that is told, and its key. -/
abbrev TS (w : World) (a : Option Addr) (n c : Nat) (key val : ByteArray) (w' : World) : Prop :=
  w'.cell? ⟨w.heap.size, 0, none⟩ = some (.slice a n c) ∧ w'.cell? ⟨w.heap.size, 1, none⟩ = some (.string val) ∧ (convert 22 9 (.slice a n c)).run Try.prog w' = .ok (.string key) w' ∧ (Boxed w (.slice a n c) (.string val) w' ∧ SeesB w' (.slice a n c) key.data.toList)
theorem TS.of {w w' : World} {a : Option Addr} {n c : Nat} {key val : ByteArray} (h : Boxed w (.slice a n c) (.string val) w') (hs : SeesB w' (.slice a n c) key.data.toList) : TS w a n c key val w' := by
  obtain ⟨c0, c1, -, -⟩ := h.cells
  exact ⟨c0, c1, hs.convert, h, hs⟩
theorem TS.b {w w' : World} {a : Option Addr} {n c : Nat} {key val : ByteArray} (h : TS w a n c key val w') : Boxed w (.slice a n c) (.string val) w' ∧ SeesB w' (.slice a n c) key.data.toList := h.2.2.2
theorem TS.call {w w' w2 : World} {a : Option Addr} {n c : Nat} {key val : ByteArray} (h : TS w a n c key val w') (hb : Below w'.heap.size w' w2) : TS w a n c key val w2 := TS.of (h.b.1.call hb) (h.b.2.below hb)

set_option maxHeartbeats 1000000 in
theorem at_in {w : World} {base p : Nat} {v : Value} {rs : List Row} (h : Blk w base p v rs) (k : Nat) (x : Row) (hx : rs[k]? = some x) (hv : x.2.val.size ≤ 1000000000) :
    Calls Try.prog 14 #[.pointer (some ⟨p, 0, none⟩), .int .i64 (k : Int)] w (Gives (.tuple #[.string x.2.key, .string x.2.val, .bool true]) w) := by
  obtain ⟨a, c, rfl⟩ := h.own.shape
  have c0 := h.c0
  have HL := Lib.hid (len_any h)
  obtain ⟨g, rfl, hgl, k0, k1⟩ := h.own.at hx
  have hsee := h.own.sees _ (List.mem_of_getElem? hx)
  obtain ⟨ka, kc, e, -⟩ := id hsee
  have hk := (List.getElem?_eq_some_iff.1 hx).1
  have hki : (k : Int) < rs.length := by omega
  have hk0 : ¬ (k : Int) < 0 := by omega
  have hk1 : (0 : Int) ≤ k := by omega
  rw [e] at k0
  rw [e] at hsee
  have HC := Lib.hid (fun W => clone_any x.2.val W (by omega))
  have HSEE := Lib.hid hsee
  obtain ⟨kv, ⟨key, val⟩⟩ := x
  dsimp only at *
  generalize key.data.toList.length = kl at *
  have hT : TS w ka kl kc key val (w.alloc (.cells #[.slice ka kl kc, .string val] 70)) := TS.of (Boxed.new w _ _) (HSEE.out.below ((Below.refl _ _).alloc (Nat.le_refl _) _))
  have hT2 : TS w ka kl kc key val (w.alloc (.cells #[.slice ka kl kc, .string val] 70)).drew := TS.of ⟨hT.b.1.h, hT.b.1.hb.drew⟩ (hT.b.2.frame (fun _ _ _ _ => rfl))
  have hT1 := Lib.hid hT; clear hT
  have HT2 := Lib.hid hT2; clear hT2
  clear h hsee hx hk e
  generalize rs.length = n at *
  go_enter Try.func14, Try.ntmps14
  go_wp2_with fail
  refine HL.out.mono ?_
  rintro e w1 ⟨rfl, rfl⟩
  go_wp2_with fail
  go_region_held3 (fun w' => w'.cell? ⟨w.heap.size, 0, none⟩ = some (.slice ka kl kc) ∧ w'.cell? ⟨w.heap.size, 1, none⟩ = some (.string val) ∧ (convert 22 9 (.slice ka kl kc)).run Try.prog w' = .ok (.string key) w' ∧ (Boxed w (.slice ka kl kc) (.string val) w' ∧ SeesB w' (.slice ka kl kc) key.data.toList))
    (first | exact HT2.out | exact TS.call (by assumption) hb4)
    (first | (go_at_call 29; refine (HC.out _).mono ?_; rintro x w4 ⟨rfl, hb4⟩))
  have hF : TS w ka kl kc key val w4 := by assumption
  have HB := Lib.hid hF.b.1.hb
  clear hF
  go_wp2_with fail
  go_ret3
  exact ⟨rfl, HB.out⟩

/-- At, of a block that lies there. -/
theorem at_any {w : World} {base p : Nat} {v : Value} {rs : List Row} (h : Blk w base p v rs) (i : Int) (hv : ∀ x ∈ rs, x.2.val.size ≤ 1000000000) :
    Calls Try.prog 14 #[.pointer (some ⟨p, 0, none⟩), .int .i64 i] w (Gives (atV (rs.map Prod.snd) i) w) := by
  by_cases h0 : i < 0
  · unfold atV
    rw [if_pos h0]
    exact at_low _ i w h0
  · obtain ⟨k, rfl⟩ := Int.eq_ofNat_of_zero_le (show 0 ≤ i by omega)
    unfold atV
    rw [if_neg h0, Int.toNat_natCast, List.getElem?_map]
    cases hx : rs[k]? with
    | none =>
      have := List.getElem?_eq_none_iff.1 hx
      exact at_high h _ (by omega)
    | some x => exact at_in h k x hx (hv x (List.mem_of_getElem? hx))
end Go.Proofs.Ytjpmcphfiiiecaa.Bo
