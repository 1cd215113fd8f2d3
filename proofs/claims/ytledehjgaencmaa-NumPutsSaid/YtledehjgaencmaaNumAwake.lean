/- The walk of awake, which every statement of layer 1 asks. -/
import Derived.Test.YtledehjgaencmaaNumVar
namespace Go.Proofs.Ytledehjgaencmaa
open Go.RowKit

theorem rvV_awake : rvV (⟨#[249, 1, 0, 122]⟩ : ByteArray).data.toList = .tuple #[.int .u64 256, .int .i64 3, .bool true] := by kernel_rfl
theorem rtV_awake : rtV (⟨#[2, 97, 98, 99]⟩ : ByteArray).data.toList 2 = .tuple #[.string ⟨#[97, 98]⟩, .int .i64 3, .bool true] := by kernel_rfl
theorem bigL_awake : bigL 258 3 = [0, 1, 2] := by kernel_rfl
theorem bigE_awake : bigE 258 3 = 0 := by kernel_rfl
theorem varl_awake : varl [0, 247, 248] = [0, 247, 248, 248] := by kernel_rfl

theorem sees_built {w : World} {cs : Array Value} {t : TypeId} {ns : List Nat} (h : ∀ i, i < ns.length → cs[i]? = some (.int .u64 (ns.getD i 0 : Nat))) (cap : Nat) :
    SeesU (w.alloc (.cells cs t)) (.slice (some ⟨w.heap.size, 0, none⟩) ns.length cap) ns := by
  refine Or.inr ⟨w.heap.size, 0, cap, rfl, by simp, fun i hi => ?_⟩
  rw [World.cell?_alloc_mark, Nat.zero_add]
  exact h i hi

/-- Two steps, each of which keeps all that it found. -/
theorem Below.next {w w1 w2 : World} (h1 : Below w.heap.size w w1) (h2 : Below w1.heap.size w1 w2) : Below w.heap.size w w2 := h1.trans (h2.mono h1.size)
theorem Below.next_alloc {w w1 : World} (h1 : Below w.heap.size w w1) (o : Obj) : Below w.heap.size w (w1.alloc o) := h1.alloc h1.size o

set_option maxHeartbeats 1000000 in
theorem awake_any (w : World) : Calls Try.prog 15 #[] w (Gives (.bool true) w) := by
  go_enter Try.func15, Try.ntmps15
  go_wp2_with fail
  refine (readVar_any _ _ (by decide)).mono ?_
  rintro e w' ⟨rfl, rfl⟩
  rw [rvV_awake]
  go_wp2_with fail
  refine (readText_any _ _ _ (by decide) (by decide)).mono ?_
  rintro e w1 ⟨rfl, hb1⟩
  rw [rtV_awake]
  go_wp2_with fail
  refine (big_any _ _ _ (by decide) (by decide)).mono ?_
  rintro e w2 ⟨rfl, hb2⟩
  rw [bigL_awake, bigE_awake]
  go_wp2_with fail
  refine (var_any _ [0, 247, 248] _ (sees_built (ns := [0, 247, 248]) (fun i hi => ?_) 3) (fun i => ?_) (by decide)).mono ?_
  · match i, hi with
    | 0, _ => rfl
    | 1, _ => rfl
    | 2, _ => rfl
  · match i with
    | 0 => decide
    | 1 => decide
    | 2 => decide
    | _ + 3 => simp
  rintro e w3 ⟨rfl, hb3⟩
  rw [varl_awake]
  go_wp2_with fail
  go_ret
  exact ⟨rfl, Below.next (Below.next_alloc (Below.next hb1 hb2) _) hb3⟩

end Go.Proofs.Ytledehjgaencmaa
