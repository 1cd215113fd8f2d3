/- Walks of batch.rowOf and Encode. -/
import Derived.Test.YtohfjibhfbcanaaBtA
import Derived.Test.YtohfjibhfbcanaaRefTextT
import Derived.Deep.RegionHeld3
namespace Go.Proofs.Ytohfjibhfbcanaa
open Go.RowKit

/-- An operation, as a value. -/
def obV (o : Ob) : Value := .agg #[.string o.key, .string o.val, .bool o.gone]

theorem sees_heap1 {w : World} {B : Nat} {s : ByteArray} {t : TypeId} (h : w.heap[B]? = some (.cells #[.string s] t (0, 0))) : SeesS w (.slice (some ⟨B, 0, none⟩) 1 1) [s] := by
  have hc : w.cell? ⟨B, 0, none⟩ = some (.string s) := by simp [World.cell?, h]
  refine Or.inr ⟨B, 0, 1, rfl, World.block_lt_of_cell? w _ hc, fun i hi => ?_⟩
  match i, hi with
  | 0, _ => exact hc
theorem sees_heap2 {w : World} {B : Nat} {s u : ByteArray} {t : TypeId} (h : w.heap[B]? = some (.cells #[.string s, .string u] t (0, 0))) : SeesS w (.slice (some ⟨B, 0, none⟩) 2 2) [s, u] := by
  have hc : w.cell? ⟨B, 0, none⟩ = some (.string s) := by simp [World.cell?, h]
  have hd : w.cell? ⟨B, 0 + 1, none⟩ = some (.string u) := by simp [World.cell?, h]
  refine Or.inr ⟨B, 0, 2, rfl, World.block_lt_of_cell? w _ hc, fun i hi => ?_⟩
  match i, hi with
  | 0, _ => exact hc
  | 1, _ => exact hd
theorem seesU_heap1 {w : World} {B n : Nat} {m : Int} {t : TypeId} (h : w.heap[B]? = some (.cells #[.int .u64 m] t (0, 0))) (hm : m = n) : SeesU w (.slice (some ⟨B, 0, none⟩) 1 1) [n] := by
  subst hm
  have hc : w.cell? ⟨B, 0, none⟩ = some (.int .u64 n) := by simp [World.cell?, h]
  refine Or.inr ⟨B, 0, 1, rfl, World.block_lt_of_cell? w _ hc, fun i hi => ?_⟩
  match i, hi with
  | 0, _ => exact hc
theorem h1n (w : World) (A : Obj) : (w.alloc A).drew.heap[w.heap.size]? = some A := heap_alloc_new w A
theorem h2o (w : World) (A B : Obj) : ((w.alloc A).alloc B).drew.heap[w.heap.size]? = some A := heap_alloc2_old w A B
theorem h2n (w : World) (A B : Obj) : ((w.alloc A).alloc B).drew.heap[w.heap.size + 1]? = some B := heap_alloc2_new w A B
theorem kept_block {w w1 : World} {k : Nat} {o : Obj} (h : w.heap[k]? = some o) (hb : Below w.heap.size w w1) : w1.heap[k]? = some o := by
  have hk : k < w.heap.size := by
    rcases Nat.lt_or_ge k w.heap.size with h' | h'
    · exact h'
    · rw [Array.getElem?_eq_none h'] at h; cases h
  rw [hb.block k hk]; exact h
theorem size_mk (l : List UInt8) : (⟨l.toArray⟩ : ByteArray).size = l.length := by show l.toArray.size = _; simp
theorem textl_one (s : ByteArray) : textl [s] = Bt.txt s := by simp [textl, Bt.txt]
theorem textl_two (s u : ByteArray) : textl [s, u] = Bt.txt s ++ Bt.txt u := by simp [textl, Bt.txt]

theorem below_one {w W w1 w2 : World} {A B : Obj} (h : Below w.heap.size w W) (h1 : Below (W.alloc A).drew.heap.size (W.alloc A).drew w1) (h2 : Below (w1.alloc B).heap.size (w1.alloc B) w2) : Below w.heap.size w w2 :=
  Below.next (Below.next_alloc (Below.next (Below.next_alloc h A).drew h1) B) h2
theorem below_two {w W w1 w2 : World} {A B : Obj} (h : Below w.heap.size w W) (h1 : Below ((W.alloc A).alloc B).drew.heap.size ((W.alloc A).alloc B).drew w1) (h2 : Below w1.heap.size w1 w2) : Below w.heap.size w w2 :=
  Below.next (Below.next (Below.next_alloc (Below.next_alloc h A) B).drew h1) h2

set_option maxHeartbeats 8000000 in
theorem rowOf_any (o : Ob) (w : World) (hk : o.key.size ≤ 64) (hv : o.val.size ≤ 512) :
    Calls Try.prog 25 #[obV o] w (Gives (.string ⟨(Bt.obRow o).toArray⟩) w) := by
  obtain ⟨key, val, gone⟩ := o
  unfold obV
  simp only at hk hv ⊢
  cases gone with
  | true =>
    obtain ⟨V, hV⟩ : ∃ V : ByteArray, V = ⟨(varl [1]).toArray⟩ := ⟨_, rfl⟩
    obtain ⟨T, hT⟩ : ∃ T : ByteArray, T = ⟨(textl [key]).toArray⟩ := ⟨_, rfl⟩
    have hVar : ∀ v W, SeesU W v [1] → Calls Try.prog 24 #[v] W (Gives (.string V) W) := fun v W h => by
      rw [hV]; exact var_any v [1] W h (fun i => by match i with
                                                    | 0 => simp
                                                    | i + 1 => simp) (by simp)
    have hText : ∀ v W, SeesS W v [key] → Calls Try.prog 39 #[v] W (Gives (.string T) W) := fun v W h => by
      rw [hT]; exact text_any v [key] W h (by simp) (by simp [suml]; omega)
    have HV1 : Hid (∀ W : World, Calls Try.prog 24 #[.slice (some ⟨W.heap.size, 0, none⟩) 1 1] (W.alloc (.cells #[.int .u64 1] 25)).drew (Gives (.string V) (W.alloc (.cells #[.int .u64 1] 25)).drew)) := Lib.hid fun W => hVar _ _ (seesU_heap1 (h1n _ _) rfl)
    have HV2 : Hid (∀ (W : World) (B : Obj), Calls Try.prog 24 #[.slice (some ⟨W.heap.size, 0, none⟩) 1 1] ((W.alloc (.cells #[.int .u64 1] 25)).alloc B).drew (Gives (.string V) ((W.alloc (.cells #[.int .u64 1] 25)).alloc B).drew)) := Lib.hid fun W B => hVar _ _ (seesU_heap1 (h2o _ _ _) rfl)
    have HV3 : Hid (∀ (W : World) (B : Obj), Calls Try.prog 24 #[.slice (some ⟨W.heap.size + 1, 0, none⟩) 1 1] ((W.alloc B).alloc (.cells #[.int .u64 1] 25)).drew (Gives (.string V) ((W.alloc B).alloc (.cells #[.int .u64 1] 25)).drew)) := Lib.hid fun W B => hVar _ _ (seesU_heap1 (h2n _ _ _) rfl)
    have HT1 : Hid (∀ W : World, Calls Try.prog 39 #[.slice (some ⟨W.heap.size, 0, none⟩) 1 1] (W.alloc (.cells #[.string key] 9)) (Gives (.string T) (W.alloc (.cells #[.string key] 9)))) := Lib.hid fun W => hText _ _ (sees_heap1 (heap_alloc_new _ _))
    have HT2 : Hid (∀ (W : World) (B : Obj) (w1 : World), Below ((W.alloc B).alloc (.cells #[.string key] 9)).drew.heap.size ((W.alloc B).alloc (.cells #[.string key] 9)).drew w1 → Calls Try.prog 39 #[.slice (some ⟨W.heap.size + 1, 0, none⟩) 1 1] w1 (Gives (.string T) w1)) := Lib.hid fun W B w1 hb => hText _ _ (sees_heap1 (kept_block (h2n _ _ _) hb))
    have HT3 : Hid (∀ (W : World) (B : Obj) (w1 : World), Below ((W.alloc (.cells #[.string key] 9)).alloc B).drew.heap.size ((W.alloc (.cells #[.string key] 9)).alloc B).drew w1 → Calls Try.prog 39 #[.slice (some ⟨W.heap.size, 0, none⟩) 1 1] w1 (Gives (.string T) w1)) := Lib.hid fun W B w1 hb => hText _ _ (sees_heap1 (kept_block (h2o _ _ _) hb))
    clear hVar hText
    have HE : Hid ((⟨(Bt.obRow ⟨key, val, true⟩).toArray⟩ : ByteArray) = V ++ T) := by rw [hV, hT, mk_app, textl_one]; exact Lib.hid rfl
    have hVs : V.size = 1 := by rw [hV, size_mk]; rfl
    have hTs : T.size ≤ 200 := by rw [hT, size_mk, textl_one]; have := (Bt.txt_length key).2; omega
    have HADD : Hid (¬ 9223372036854775807 < V.size + T.size) := Lib.hid (by omega)
    clear hV hT hVs hTs hk hv
    go_enter Try.func25, Try.ntmps25
    go_wp2_with fail
    have HB0 : Hid (Below w.heap.size w (w.alloc (Obj.cells #[Value.string key, Value.string val, Value.bool true] 24))) := Lib.hid ((Below.refl _ _).alloc (Nat.le_refl _) _)
    have hc : (w.alloc (Obj.cells #[Value.string key, Value.string val, Value.bool true] 24)).cell? ⟨w.heap.size, 0, none⟩ = some (.string key) := by unfold World.cell?; rw [heap_alloc_new]; rfl
    have hsz : w.heap.size < (w.alloc (Obj.cells #[Value.string key, Value.string val, Value.bool true] 24)).heap.size := by simp
    generalize w.alloc (Obj.cells #[Value.string key, Value.string val, Value.bool true] 24) = W at *
    have HK1 : Hid (∀ A, (W.alloc A).drew.cell? ⟨w.heap.size, 0, none⟩ = some (.string key)) := Lib.hid (fun A =>
      (((Below.refl W.heap.size W).alloc (Nat.le_refl _) _).drew.cell (p := ⟨w.heap.size, 0, none⟩) hsz).trans hc)
    have HK2 : Hid (∀ A B, ((W.alloc A).alloc B).drew.cell? ⟨w.heap.size, 0, none⟩ = some (.string key)) := Lib.hid (fun A B =>
      ((Below.next_alloc ((Below.refl W.heap.size W).alloc (Nat.le_refl _) _) _).drew.cell (p := ⟨w.heap.size, 0, none⟩) hsz).trans hc)
    have hadd := HADD.out
    go_region_held3 (fun w' => w'.cell? ⟨w.heap.size, 0, none⟩ = some (.string key))
      (first
        | go_keep
        | (refine (hb1.cell (p := ⟨w.heap.size, 0, none⟩) (by simp; omega)).trans ?_; first | exact HK1.out _ | exact HK2.out _ _)
        | (refine (hb2.cell (p := ⟨w.heap.size, 0, none⟩) (by have := hb1.size; simp at this; simp; omega)).trans ?_; assumption))
      (first
        | (go_at_call 24; (with_reducible refine (HV1.out _).mono ?_); rintro e w1 ⟨rfl, hb1⟩)
        | (go_at_call 24; (with_reducible refine (HV2.out _ _).mono ?_); rintro e w1 ⟨rfl, hb1⟩)
        | (go_at_call 24; (with_reducible refine (HV3.out _ _).mono ?_); rintro e w1 ⟨rfl, hb1⟩)
        | (go_at_call 39; (with_reducible refine (HT1.out _).mono ?_); rintro e w2 ⟨rfl, hb2⟩)
        | (go_at_call 39; (with_reducible refine (HT2.out _ _ _ hb1).mono ?_); rintro e w2 ⟨rfl, hb2⟩)
        | (go_at_call 39; (with_reducible refine (HT3.out _ _ _ hb1).mono ?_); rintro e w2 ⟨rfl, hb2⟩))
    all_goals
      have HF : Hid (Below w.heap.size w w2) := by
        first
          | exact Lib.hid (below_one HB0.out hb1 hb2)
          | exact Lib.hid (below_two HB0.out hb1 hb2)
      clear hb1 hb2
      go_wp2_with fail
      go_ret
      rw [HE.out]
      exact ⟨rfl, HF.out⟩
  | false =>
    obtain ⟨V, hV⟩ : ∃ V : ByteArray, V = ⟨(varl [0]).toArray⟩ := ⟨_, rfl⟩
    obtain ⟨T, hT⟩ : ∃ T : ByteArray, T = ⟨(textl [key, val]).toArray⟩ := ⟨_, rfl⟩
    have hVar : ∀ v W, SeesU W v [0] → Calls Try.prog 24 #[v] W (Gives (.string V) W) := fun v W h => by
      rw [hV]; exact var_any v [0] W h (fun i => by match i with
                                                    | 0 => simp
                                                    | i + 1 => simp) (by simp)
    have hText : ∀ v W, SeesS W v [key, val] → Calls Try.prog 39 #[v] W (Gives (.string T) W) := fun v W h => by
      rw [hT]; exact text_any v [key, val] W h (by simp) (by simp [suml]; omega)
    have HV1 : Hid (∀ W : World, Calls Try.prog 24 #[.slice (some ⟨W.heap.size, 0, none⟩) 1 1] (W.alloc (.cells #[.int .u64 0] 25)).drew (Gives (.string V) (W.alloc (.cells #[.int .u64 0] 25)).drew)) := Lib.hid fun W => hVar _ _ (seesU_heap1 (h1n _ _) rfl)
    have HV2 : Hid (∀ (W : World) (B : Obj), Calls Try.prog 24 #[.slice (some ⟨W.heap.size, 0, none⟩) 1 1] ((W.alloc (.cells #[.int .u64 0] 25)).alloc B).drew (Gives (.string V) ((W.alloc (.cells #[.int .u64 0] 25)).alloc B).drew)) := Lib.hid fun W B => hVar _ _ (seesU_heap1 (h2o _ _ _) rfl)
    have HV3 : Hid (∀ (W : World) (B : Obj), Calls Try.prog 24 #[.slice (some ⟨W.heap.size + 1, 0, none⟩) 1 1] ((W.alloc B).alloc (.cells #[.int .u64 0] 25)).drew (Gives (.string V) ((W.alloc B).alloc (.cells #[.int .u64 0] 25)).drew)) := Lib.hid fun W B => hVar _ _ (seesU_heap1 (h2n _ _ _) rfl)
    have HT1 : Hid (∀ W : World, Calls Try.prog 39 #[.slice (some ⟨W.heap.size, 0, none⟩) 2 2] (W.alloc (.cells #[.string key, .string val] 9)) (Gives (.string T) (W.alloc (.cells #[.string key, .string val] 9)))) := Lib.hid fun W => hText _ _ (sees_heap2 (heap_alloc_new _ _))
    have HT2 : Hid (∀ (W : World) (B : Obj) (w1 : World), Below ((W.alloc B).alloc (.cells #[.string key, .string val] 9)).drew.heap.size ((W.alloc B).alloc (.cells #[.string key, .string val] 9)).drew w1 → Calls Try.prog 39 #[.slice (some ⟨W.heap.size + 1, 0, none⟩) 2 2] w1 (Gives (.string T) w1)) := Lib.hid fun W B w1 hb => hText _ _ (sees_heap2 (kept_block (h2n _ _ _) hb))
    have HT3 : Hid (∀ (W : World) (B : Obj) (w1 : World), Below ((W.alloc (.cells #[.string key, .string val] 9)).alloc B).drew.heap.size ((W.alloc (.cells #[.string key, .string val] 9)).alloc B).drew w1 → Calls Try.prog 39 #[.slice (some ⟨W.heap.size, 0, none⟩) 2 2] w1 (Gives (.string T) w1)) := Lib.hid fun W B w1 hb => hText _ _ (sees_heap2 (kept_block (h2o _ _ _) hb))
    clear hVar hText
    have HE : Hid ((⟨(Bt.obRow ⟨key, val, false⟩).toArray⟩ : ByteArray) = V ++ T) := by rw [hV, hT, mk_app, textl_two]; exact Lib.hid rfl
    have hVs : V.size = 1 := by rw [hV, size_mk]; rfl
    have hTs : T.size ≤ 800 := by rw [hT, size_mk, textl_two, List.length_append]; have := (Bt.txt_length key).2; have := (Bt.txt_length val).2; omega
    have HADD : Hid (¬ 9223372036854775807 < V.size + T.size) := Lib.hid (by omega)
    clear hV hT hVs hTs hk hv
    go_enter Try.func25, Try.ntmps25
    go_wp2_with fail
    have HB0 : Hid (Below w.heap.size w (w.alloc (Obj.cells #[Value.string key, Value.string val, Value.bool false] 24))) := Lib.hid ((Below.refl _ _).alloc (Nat.le_refl _) _)
    have hc : (w.alloc (Obj.cells #[Value.string key, Value.string val, Value.bool false] 24)).cell? ⟨w.heap.size, 0, none⟩ = some (.string key) := by unfold World.cell?; rw [heap_alloc_new]; rfl
    have hd : (w.alloc (Obj.cells #[Value.string key, Value.string val, Value.bool false] 24)).cell? ⟨w.heap.size, 1, none⟩ = some (.string val) := by unfold World.cell?; rw [heap_alloc_new]; rfl
    have hsz : w.heap.size < (w.alloc (Obj.cells #[Value.string key, Value.string val, Value.bool false] 24)).heap.size := by simp
    generalize w.alloc (Obj.cells #[Value.string key, Value.string val, Value.bool false] 24) = W at *
    have HK1 : Hid (∀ A, (W.alloc A).drew.cell? ⟨w.heap.size, 0, none⟩ = some (.string key)) := Lib.hid (fun A =>
      (((Below.refl W.heap.size W).alloc (Nat.le_refl _) _).drew.cell (p := ⟨w.heap.size, 0, none⟩) hsz).trans hc)
    have HK2 : Hid (∀ A B, ((W.alloc A).alloc B).drew.cell? ⟨w.heap.size, 0, none⟩ = some (.string key)) := Lib.hid (fun A B =>
      ((Below.next_alloc ((Below.refl W.heap.size W).alloc (Nat.le_refl _) _) _).drew.cell (p := ⟨w.heap.size, 0, none⟩) hsz).trans hc)
    have HJ1 : Hid (∀ A, (W.alloc A).drew.cell? ⟨w.heap.size, 1, none⟩ = some (.string val)) := Lib.hid (fun A =>
      (((Below.refl W.heap.size W).alloc (Nat.le_refl _) _).drew.cell (p := ⟨w.heap.size, 1, none⟩) hsz).trans hd)
    have HJ2 : Hid (∀ A B, ((W.alloc A).alloc B).drew.cell? ⟨w.heap.size, 1, none⟩ = some (.string val)) := Lib.hid (fun A B =>
      ((Below.next_alloc ((Below.refl W.heap.size W).alloc (Nat.le_refl _) _) _).drew.cell (p := ⟨w.heap.size, 1, none⟩) hsz).trans hd)
    have hadd := HADD.out
    go_region_held3 (fun w' => w'.cell? ⟨w.heap.size, 0, none⟩ = some (.string key) ∧ w'.cell? ⟨w.heap.size, 1, none⟩ = some (.string val))
      (first
        | go_keep
        | (go_split_ands
           refine ⟨?_, ?_⟩
           · (refine (hb1.cell (p := ⟨w.heap.size, 0, none⟩) (by simp; omega)).trans ?_; first | exact HK1.out _ | exact HK2.out _ _)
           · (refine (hb1.cell (p := ⟨w.heap.size, 1, none⟩) (by simp; omega)).trans ?_; first | exact HJ1.out _ | exact HJ2.out _ _))
        | (go_split_ands
           refine ⟨?_, ?_⟩
           · (refine (hb2.cell (p := ⟨w.heap.size, 0, none⟩) (by have := hb1.size; simp at this; simp; omega)).trans ?_; first | assumption | go_keep)
           · (refine (hb2.cell (p := ⟨w.heap.size, 1, none⟩) (by have := hb1.size; simp at this; simp; omega)).trans ?_; first | assumption | go_keep)))
      (first
        | (go_at_call 24; (with_reducible refine (HV1.out _).mono ?_); rintro e w1 ⟨rfl, hb1⟩)
        | (go_at_call 24; (with_reducible refine (HV2.out _ _).mono ?_); rintro e w1 ⟨rfl, hb1⟩)
        | (go_at_call 24; (with_reducible refine (HV3.out _ _).mono ?_); rintro e w1 ⟨rfl, hb1⟩)
        | (go_at_call 39; (with_reducible refine (HT1.out _).mono ?_); rintro e w2 ⟨rfl, hb2⟩)
        | (go_at_call 39; (with_reducible refine (HT2.out _ _ _ hb1).mono ?_); rintro e w2 ⟨rfl, hb2⟩)
        | (go_at_call 39; (with_reducible refine (HT3.out _ _ _ hb1).mono ?_); rintro e w2 ⟨rfl, hb2⟩))
    all_goals
      have HF : Hid (Below w.heap.size w w2) := by
        first
          | exact Lib.hid (below_one HB0.out hb1 hb2)
          | exact Lib.hid (below_two HB0.out hb1 hb2)
      clear hb1 hb2
      go_wp2_with fail
      go_ret
      rw [HE.out]
      exact ⟨rfl, HF.out⟩

end Go.Proofs.Ytohfjibhfbcanaa
