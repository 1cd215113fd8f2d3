/- What From tells, of a list that is nil or lies in memory. -/
import Derived.Test.YtghfgffgcknbmaaSkAsk
import Derived.Test.YtghfgffgcknbmaaSkTwo
namespace Go.Proofs.Ytghfgffgcknbmaa.Sk
open Go Go.RowKit Go.Shelf
set_option linter.unusedVariables false
attribute [local go_sem] Oper.semAt_some

set_option maxRecDepth 100000 in
set_option maxHeartbeats 2000000 in
theorem from1_nil (n : Nat) (hn : 1 ≤ n) (l B1 B2 : Nat) (K : ByteArray) (J Jx : List (It ByteArray) → World → Prop) (W : World)
    (h1 : W.cell? ⟨B1, 0, none⟩ = some (.pointer none)) (h2 : W.cell? ⟨B2, 0, none⟩ = some (.string K)) (h0 : J [] W) :
    CallsIn Fence.wide n Try.prog 42 #[.func (.yield l) #[] #[], .pointer (some ⟨B1, 0, none⟩), .pointer (some ⟨B2, 0, none⟩)] W fun e W' => (∃ v, e = .returned v) ∧
      ((∃ ys, ys = [] ∧ J ys W') ∨ (∃ pre, pre <+: [] ∧ Jx pre W')) := by
  have HF := Lib.hid (findNil K W)
  have H0 := Lib.hid h0
  clear h0
  refine callsIn_of_wp Try.func42 rfl trivial ?_ rfl
  simp only [Try.ntmps42, List.size_toArray, List.length_cons, List.length_nil, Nat.reduceAdd, Nat.reduceSub, Array.replicate_succ, Array.replicate_zero, List.push_toArray, List.append_toArray, List.nil_append, List.cons_append]
  gi_wp2_with (refine ⟨trivial, ?_⟩; gi_at_call 43; refine (callsIn_wide.2 HF.out).mono ?_; rintro e w1 ⟨rfl, rfl⟩)
  gi_loopw [4] (fun p wr => p = .int .i64 0 ∧ wr = w1) (fun p _ => 0)
  case atStart => exact ⟨rfl, rfl⟩
  case round =>
    obtain ⟨rfl, rfl⟩ := hrel
    gi_wp2
    go_end0
    exact ⟨⟨_, rfl⟩, .inl ⟨[], rfl, H0.out⟩⟩
theorem from_stopsL (n : Nat) (hn : 1 ≤ n) (B1 B2 : Nat) (Wr : Nat → Prop) {w0 w : World} {q : Option Addr} {s r : List (It ByteArray)} (h : Lst w0 q s r) (hb : Below w0.heap.size w0 w) (hlow : ∀ b, b < w0.heap.size → ¬ Wr b)
    (h1 : w.cell? ⟨B1, 0, none⟩ = some (.pointer q)) (h2 : w.cell? ⟨B2, 0, none⟩ = some (.string ⟨#[]⟩)) (hB1 : ¬ Wr B1) :
    SeqStopsK Fence.wide n Try.prog 42 #[.pointer (some ⟨B1, 0, none⟩), .pointer (some ⟨B2, 0, none⟩)] encS (Turns Wr) (fun ys => ys = s) (fun pre => pre <+: s) s.length w := by
  rcases h with ⟨rfl, rfl, rfl⟩ | ⟨L, rfl, hL⟩
  · exact fun l J Jx W hW hJ _ hY h0 => from1_nil n hn l B1 B2 ⟨#[]⟩ J Jx W ((hW.cell (p := ⟨B1, 0, none⟩) (World.block_lt_of_cell? w _ h1)).trans h1) ((hW.cell (p := ⟨B2, 0, none⟩) (World.block_lt_of_cell? w _ h2)).trans h2) h0
  · exact from_stops n hn B1 B2 Wr L s r ⟨#[]⟩ [] s rfl seek_all w h1 h2 hB1 (hL.below hb) fun b hb => hlow b (hL.own_lt hb)

end Go.Proofs.Ytghfgffgcknbmaa.Sk
