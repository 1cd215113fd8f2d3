/- The walks of mem.New, isMade, copyOf, Newest, Bytes. -/
import Derived.Test.YtmdnmabbphnhaaaMmHeap
import Derived.Test.YtmdnmabbphnhaaaMmP
namespace Go.Proofs.Ytmdnmabbphnhaaa.Mm
open Go Go.RowKit Go.Proofs.Ytmdnmabbphnhaaa.Sk Go.Proofs.Ytmdnmabbphnhaaa.Sm
set_option linter.unusedVariables false

theorem made_yes {w : World} {M : MLay} {s r : List (It Ent)} (h : Held w M s r) :
    Calls Try.prog 25 #[.pointer (some ⟨M.m, 0, none⟩)] w fun e w' => e = .returned (.bool true) ∧ w' = w := by
  have c0 := h.c0
  have c1 := h.c1
  clear h
  go_enter Try.func25, Try.ntmps25
  go_wp2_with fail
  go_ret
  exact ⟨rfl, rfl⟩

theorem made_nil (w : World) :
    Calls Try.prog 25 #[.pointer none] w fun e w' => e = .returned (.bool false) ∧ w' = w := by
  go_enter Try.func25, Try.ntmps25
  go_wp2_with fail
  go_ret
  exact ⟨rfl, rfl⟩

theorem made_no {w : World} {b : Nat} (h : w.heap[b]? = some (.cells #[.pointer none, .pointer none] 40 (0, 0))) :
    Calls Try.prog 25 #[.pointer (some ⟨b, 0, none⟩)] w fun e w' => e = .returned (.bool false) ∧ w' = w := by
  have c0 : w.cell? ⟨b, 0, none⟩ = some (.pointer none) := by rw [cell_of h]; rfl
  clear h
  go_enter Try.func25, Try.ntmps25
  go_wp2_with fail
  go_ret
  exact ⟨rfl, rfl⟩

/-- A copy under way: the box of what is copied, the box of the answer. -/
def CB (w0 : World) (e : Ent) (w' : World) : Prop := w'.heap[w0.heap.size]? = some (.cells #[.string e.key, .string e.val, .int .u64 (e.seq : Int), .bool e.gone] 32 (0, 0)) ∧
  w'.heap[w0.heap.size + 1]? = some (.cells #[.string ⟨#[]⟩, .string ⟨#[]⟩, .int .u64 0, .bool false] 32 (0, 0)) ∧ Below w0.heap.size w0 w'
theorem CB.facts {w0 w' : World} {e : Ent} (h : CB w0 e w') : w'.cell? ⟨w0.heap.size, 0, none⟩ = some (.string e.key) ∧ w'.cell? ⟨w0.heap.size, 1, none⟩ = some (.string e.val) ∧ w'.frozen? ⟨w0.heap.size, 0, none⟩ = false ∧ w'.frozen? ⟨w0.heap.size, 1, none⟩ = false ∧ CB w0 e w' := by
  obtain ⟨a, b, c, d, f, g, _⟩ := box4 h.1
  exact ⟨a, b, f, g, h⟩
theorem CB.last {w0 w' : World} {e : Ent} (h : w'.cell? ⟨w0.heap.size, 0, none⟩ = some (.string e.key) ∧ w'.cell? ⟨w0.heap.size, 1, none⟩ = some (.string e.val) ∧ w'.frozen? ⟨w0.heap.size, 0, none⟩ = false ∧ w'.frozen? ⟨w0.heap.size, 1, none⟩ = false ∧ CB w0 e w') : CB w0 e w' := h.2.2.2.2
theorem CB.start (w0 : World) (e : Ent) : CB w0 e ((w0.alloc (.cells #[.string e.key, .string e.val, .int .u64 (e.seq : Int), .bool e.gone] 32)).alloc (.cells #[.string ⟨#[]⟩, .string ⟨#[]⟩, .int .u64 0, .bool false] 32)) := by
  refine ⟨(RowKit.Below.heap_alloc _ _ _ (by simp)).trans (heap_alloc_new w0 _), ?_, (alloc_below w0 _).alloc (by simp) _⟩
  have := heap_alloc_new (w0.alloc (.cells #[.string e.key, .string e.val, .int .u64 (e.seq : Int), .bool e.gone] 32)) (.cells #[.string ⟨#[]⟩, .string ⟨#[]⟩, .int .u64 0, .bool false] 32)
  rw [World.size_alloc] at this
  exact this
theorem CB.drew {w0 w' : World} {e : Ent} (h : CB w0 e w') : CB w0 e w'.drew := ⟨h.1, h.2.1, drew_below h.2.2⟩
theorem CB.call {w0 w' w2 : World} {e : Ent} (h : CB w0 e w') (hb : Below w'.heap.size w' w2) : CB w0 e w2 :=
  ⟨(hb.block _ (heap_lt h.1)).trans h.1, (hb.block _ (heap_lt h.2.1)).trans h.2.1, h.2.2.trans (hb.mono h.2.2.size)⟩
theorem CB.set {w0 w' : World} {e : Ent} (h : CB w0 e w') (k : Nat) (v : Value) (hv : #[Value.string e.key, .string e.val, .int .u64 (e.seq : Int), .bool e.gone].setIfInBounds k v = #[Value.string e.key, .string e.val, .int .u64 (e.seq : Int), .bool e.gone]) : CB w0 e (w'.setCell ⟨w0.heap.size, k, none⟩ v) := by
  refine ⟨?_, (setCell_kept _ _ _ (by simp)).trans h.2.1, h.2.2.setCell (p := ⟨w0.heap.size, k, none⟩) (Nat.le_refl _) v⟩
  rw [heap_setCell_same w' w0.heap.size k _ _ v h.1, hv]

set_option maxHeartbeats 2000000 in
theorem copyOf_any (e : Ent) (w : World) (hk : e.key.size ≤ 1000000) (hv : e.val.size ≤ 1000000) :
    Calls Try.prog 27 #[enV e] w fun x w' => x = .returned (enV e) ∧ Below w.heap.size w w' := by
  have HC := Lib.hid (fun W => clone_any e.key W (by omega))
  have HD := Lib.hid (fun W => clone_any e.val W (by omega))
  rw [show enV e = .agg #[.string e.key, .string e.val, .int .u64 (e.seq : Int), .bool e.gone] from rfl]
  have hcb := CB.start w e
  go_enter Try.func27, Try.ntmps27
  go_wp2_with fail
  generalize (w.alloc (.cells #[.string e.key, .string e.val, .int .u64 (e.seq : Int), .bool e.gone] 32)).alloc (.cells #[.string ⟨#[]⟩, .string ⟨#[]⟩, .int .u64 0, .bool false] 32) = W at *
  go_region_held3 (fun w' => w'.cell? ⟨w.heap.size, 0, none⟩ = some (.string e.key) ∧ w'.cell? ⟨w.heap.size, 1, none⟩ = some (.string e.val) ∧ w'.frozen? ⟨w.heap.size, 0, none⟩ = false ∧ w'.frozen? ⟨w.heap.size, 1, none⟩ = false ∧ CB w e w')
    (first | exact (CB.call (CB.last (by assumption)) hb4).facts | exact (CB.set (CB.last (by assumption)) 0 _ rfl).facts | exact (CB.set (CB.last (by assumption)) 1 _ rfl).facts | exact hcb.drew.facts)
    (first | (go_at_call 33; refine (HC.out _).mono ?_; rintro x w4 ⟨rfl, hb4⟩) | (go_at_call 33; refine (HD.out _).mono ?_; rintro x w4 ⟨rfl, hb4⟩))
  have hS : CB w e ((w4.setCell ⟨w.heap.size, 0, none⟩ (.string e.key)).setCell ⟨w.heap.size, 1, none⟩ (.string e.val)) := CB.last (by assumption)
  generalize (w4.setCell ⟨w.heap.size, 0, none⟩ (.string e.key)).setCell ⟨w.heap.size, 1, none⟩ (.string e.val) = w5 at *
  obtain ⟨h1, h2, h3⟩ := hS
  obtain ⟨a0, a1, a2, a3, _, _, _, _⟩ := box4 h1
  obtain ⟨b0, b1, b2, b3, f0, f1, f2, f3⟩ := box4 h2
  go_wp2_with fail
  have hz := set4_heap (.string e.key) (.string e.val) (.int .u64 (e.seq : Int)) (.bool e.gone) h2
  have hbz := set4_below (B := w.heap.size) (.string e.key) (.string e.val) (.int .u64 (e.seq : Int)) (.bool e.gone) h3 (Nat.le_succ _)
  dsimp only [set4] at hz hbz
  generalize (((w5.setCell ⟨w.heap.size + 1, 0, none⟩ (.string e.key)).setCell ⟨w.heap.size + 1, 1, none⟩ (.string e.val)).setCell ⟨w.heap.size + 1, 2, none⟩ (.int .u64 (e.seq : Int))).setCell ⟨w.heap.size + 1, 3, none⟩ (.bool e.gone) = w6 at *
  clear a0 a1 a2 a3 b0 b1 b2 b3
  obtain ⟨b0, b1, b2, b3, _, _, _, _⟩ := box4 hz
  exact bodyPost_ret (v := .agg #[.string e.key, .string e.val, .int .u64 (e.seq : Int), .bool e.gone]) (by simp [results, Try.results27, go_sem, b0, b1, b2, b3]) rfl ⟨rfl, hbz⟩

theorem new_any (w : World) :
    Calls Try.prog 7 #[] w fun e w' => ∃ M, e = .returned (.pointer (some ⟨M.m, 0, none⟩)) ∧ Held w' M [] [] ∧ Below w.heap.size w w' ∧ ∀ b, OwnM M [] b → w.heap.size ≤ b := by
  have HN := Lib.hid (fun W => Sm.new_any W)
  go_enter Try.func7, Try.ntmps7
  go_wp2_with fail
  refine (HN.out w).mono ?_
  rintro e w1 ⟨rfl, hb1, hl1⟩
  have HL := Lib.hid (And.intro hb1 hl1)
  clear hb1 hl1
  go_wp2_with fail
  go_ret
  obtain ⟨hb1, hl1⟩ := HL.out
  have hz := hb1.size
  have hb2 : Below w.heap.size w ((w1.alloc (.cells #[.int .u64 0, .int .i64 0] 60)).alloc (.cells #[.pointer (some ⟨w.heap.size, 0, none⟩), .pointer (some ⟨w1.heap.size, 0, none⟩)] 40)) := (hb1.alloc hz _).alloc (by simp; omega) _
  refine ⟨⟨⟨w.heap.size, .slice none 0 0, fun _ => 0⟩, w1.heap.size + 1, w1.heap.size⟩, rfl, ⟨?_, ⟨List.Pairwise.nil, by simp, by simp⟩, by simp, ?_, ?_⟩, hb2, fun b hb => ?_⟩
  · exact (hl1.alloc _).alloc _
  · have := heap_alloc_new (w1.alloc (.cells #[.int .u64 0, .int .i64 0] 60)) (.cells #[.pointer (some ⟨w.heap.size, 0, none⟩), .pointer (some ⟨w1.heap.size, 0, none⟩)] 40)
    rw [World.size_alloc] at this
    exact this
  · exact (RowKit.Below.heap_alloc _ _ _ (by simp)).trans (heap_alloc_new w1 _)
  · rcases hb with (hb | hb | ⟨y, hy, _⟩) | hb | hb
    · exact Nat.le_of_eq hb.symm
    · simp [Value.ownBlock] at hb
    · cases hy
    · have : b = w1.heap.size + 1 := hb
      omega
    · have : b = w1.heap.size := hb
      omega
end Go.Proofs.Ytmdnmabbphnhaaa.Mm
